import Derived.Test.YtiobfdfmfgjpfaaDoorSwXTo
import Derived.Deep.QuietTactic
import Derived.BigQuiet
import Derived.Deep.Quiet
import Derived.OrdersIn
import Derived.RangeFuncCalls
import Derived.Test.YtiobfdfmfgjpfaaDoorP2To
/-
  Contracts: corbelref01.Words, corbelref01.Texts.
-/
namespace Go.Proofs.YtiobfdfmfgjpfaaDoor
open Go.RowKit Go.Shelf

/-- A slice of words, as it lies in memory. -/
def HasW (w : World) (v : Value) (xs : List Nat) : Prop :=
  ∃ p c, v = .slice p xs.length c ∧ xs.length ≤ c ∧ (p = none → c = 0) ∧
    (0 < xs.length → ∃ b o, p = some ⟨b, o, none⟩ ∧ b < w.heap.size ∧ ∀ i, i < xs.length → w.cell? ⟨b, o + i, none⟩ = some (.int .u64 ((xs.getD i 0 : Nat) : Int)))
theorem HasW.below {w w' : World} {B : Nat} {v : Value} {xs : List Nat} (h : HasW w v xs) (hb : Below B w w') (hB : w.heap.size ≤ B) : HasW w' v xs := by
  obtain ⟨p, c, rfl, h1, h2, h3⟩ := h
  refine ⟨p, c, rfl, h1, h2, fun h0 => ?_⟩
  obtain ⟨b, o, rfl, hlt, hc⟩ := h3 h0
  exact ⟨b, o, rfl, Nat.lt_of_lt_of_le hlt hb.size, fun i hi => (hb.cell (p := ⟨b, o + i, none⟩) (by exact Nat.lt_of_lt_of_le hlt hB)).trans (hc i hi)⟩

set_option maxRecDepth 10000 in
set_option maxHeartbeats 2000000 in
theorem texts_any (u v : Value) (xs ys : List ByteArray) (w : World) (hx : HasT w u xs) (hy : HasT w v ys) (lx : xs.length ≤ 1099511627776) (ly : ys.length ≤ 1099511627776) :
    Calls Tryd.prog 23 #[u, v] w fun e w' => e = .returned (.bool (decide (xs = ys))) ∧ Below w.heap.size w w' := by
  obtain ⟨p, c, rfl, hc, _, hcx⟩ := hx
  obtain ⟨q, d, rfl, hd, _, hcy⟩ := hy
  by_cases hl : xs.length = ys.length
  · rcases Nat.eq_zero_or_pos xs.length with h0 | h0
    · obtain rfl : xs = [] := List.eq_nil_of_length_eq_zero h0
      obtain rfl : ys = [] := List.eq_nil_of_length_eq_zero (by simpa using hl.symm)
      go_enter Tryd.func23, Tryd.ntmps23
      go_wp2
      go_loop [13] (fun t => t = .int .i64 0) (fun _ => 0)
      case atStart => rfl
      case round =>
        obtain rfl := hrel
        go_wp2
        go_ret
        exact ⟨rfl, Below.refl _ _⟩
    · obtain ⟨b, o, rfl, hbl, hcx⟩ := hcx h0
      obtain ⟨b', o', rfl, hbl', hcy⟩ := hcy (by omega)
      have hl' : ((xs.length : Int) == (ys.length : Int)) = true := by rw [hl]; simp
      go_enter Tryd.func23, Tryd.ntmps23
      go_wp2
      go_loopw [13] (fun t wr => ∃ j : Nat, j ≤ xs.length ∧ t = .int .i64 j ∧ Hid (∀ i, i < j → xs.getD i ByteArray.empty = ys.getD i ByteArray.empty) ∧ Below w.heap.size w wr) (fun t _ => xs.length - (intOf t).toNat)
      case atStart => exact ⟨0, by omega, rfl, fun i hi => by omega, Below.refl _ _⟩
      case round =>
        obtain ⟨j, hj, rfl, hs, hb⟩ := hrel
        by_cases hlt : j < xs.length
        · have c1 : wr.cell? ⟨b, o + j, none⟩ = some (.string (xs.getD j ByteArray.empty)) := (hb.cell (p := ⟨b, o + j, none⟩) hbl).trans (hcx j hlt)
          have c2 : wr.cell? ⟨b', o' + j, none⟩ = some (.string (ys.getD j ByteArray.empty)) := (hb.cell (p := ⟨b', o' + j, none⟩) hbl').trans (hcy j (by omega))
          have hj1 : (j : Int) < (xs.length : Int) := by omega
          have hj2 : (j : Int) < (ys.length : Int) := by omega
          by_cases he : xs.getD j ByteArray.empty = ys.getD j ByteArray.empty
          · have he' : ((xs.getD j ByteArray.empty).toList == (ys.getD j ByteArray.empty).toList) = true := by rw [he]; exact beq_self_eq_true _
            have hs' : Hid (∀ i, i < j + 1 → xs.getD i ByteArray.empty = ys.getD i ByteArray.empty) := fun i hi => by
              by_cases e : i = j
              · rw [e]; exact he
              · exact hs.out i (by omega)
            clear hs he hcx hcy
            generalize xs.getD j ByteArray.empty = x at *
            generalize ys.getD j ByteArray.empty = y at *
            go_wp2
            go_quiet (fail)
            go_wp2
            go_roundw
            case rel => exact ⟨j + 1, by omega, by simp, hs', below_drewN hb _⟩
            case measure => simp only [intOf]; omega
          · have he' : ((xs.getD j ByteArray.empty).toList == (ys.getD j ByteArray.empty).toList) = false := str_ne he
            have hd0 : Hid (decide (xs = ys) = false) := decide_eq_false fun e => he (by rw [e])
            clear hs he hcx hcy
            generalize xs.getD j ByteArray.empty = x at *
            generalize ys.getD j ByteArray.empty = y at *
            go_wp2
            go_quiet (fail)
            go_wp2
            go_ret
            exact ⟨by rw [hd0.out]; rfl, below_drewN hb _⟩
        · obtain rfl : j = xs.length := by omega
          have he : Hid (decide (xs = ys) = true) := decide_eq_true (List.ext_getElem hl fun i h1 h2 => by
            have := hs.out i h1
            simpa [List.getD_eq_getElem?_getD, List.getElem?_eq_getElem h1, List.getElem?_eq_getElem h2] using this)
          clear hs hcx hcy
          go_wp2
          go_ret
          exact ⟨by rw [he.out]; rfl, hb⟩
  · have hne : xs ≠ ys := fun e => hl (by rw [e])
    have hd0 : decide (xs = ys) = false := decide_eq_false hne
    have hl' : ((xs.length : Int) == (ys.length : Int)) = false := by
      rw [beq_eq_false_iff_ne]; omega
    clear hcx hcy
    rw [hd0]
    go_enter Tryd.func23, Tryd.ntmps23
    go_wp2
    go_ret
    exact ⟨rfl, Below.refl _ _⟩

end Go.Proofs.YtiobfdfmfgjpfaaDoor

/-
  A region that draws its order and only reads, in a round of a range over a function: one walk, in the order of the text. No program is named here.
-/
namespace Go.Proofs.YtiobfdfmfgjpfaaDoor
open Go.RowKit

def noDefer (L : List Oper) : Bool := L.all fun o => match o.op with
  | .defer _ => false
  | _ => true
theorem noDefer_at {L : List Oper} (h : noDefer L = true) {o : Oper} (ho : o ∈ L) : ∀ c, o.op ≠ .defer c := fun c e => by
  have := (List.all_eq_true.1 h) o ho
  rw [e] at this
  cases this

theorem wpIn_of_quiet {P : Program} {C : World → Prop} {l n : Nat} {o : Oper} (hd : ∀ c, o.op ≠ .defer c) {a : Act} {K : Act → Prop} {K' : Act → World → Prop} {Q' : Exit → Act → World → Prop} {w : World} (hw : C w) (h : ∀ a w', C w' → K a → K' a w')
    (hh : o.quiet P a C K) : o.wpIn (Fence.wide.inRound l) n P a w K' Q' := by
  obtain ⟨v, h1, h2⟩ := hh
  have h3 := h1 w hw
  unfold Oper.quietAt at h3
  unfold Oper.wpIn
  refine ⟨fun _ _ => trivial, ?_⟩
  rw [Oper.semAt_eq _ _ _ hd]
  generalize (execOp a.eval o).run P w = r at *
  cases r with
  | ok n w' =>
    cases n <;> simp only [Oper.quietUpon] at h3 <;> simp only [Oper.uponIn]
    case value u =>
      obtain ⟨e1, e2⟩ := h3
      rw [e1, e2]
      exact h _ _ hw h2
    case skip =>
      obtain ⟨e1, e2⟩ := h3
      rw [e1, ← e2]
      exact h _ _ hw h2
    case enter f args =>
      obtain ⟨e1, hc⟩ := h3
      rw [e1]
      refine ⟨(fun h => by cases h), CallsIn.inRound l (callsIn_wide.2 (hc.mono fun e w'' ⟨he, hw''⟩ => ?_))⟩
      subst he
      exact h _ _ hw'' h2
  | halt x w' => simp only [Oper.quietUpon] at h3

theorem wpAnyIn_of_quiet' {P : Program} {md : Region.Mode} {C : World → Prop} {l n : Nat} {L : List Oper} (hd : noDefer L = true) {Q : Act → Prop} {Q' : Exit → Act → World → Prop} (hQ : ∀ a w, C w → Q a → Q' .normal a w) :
    ∀ (fuel : Nat) (listed : Array Bool) (a : Act) (w : World), C w → wpAnyQ P md L.toArray C Q fuel listed a → wpAnyIn (Fence.wide.inRound l) n P md L.toArray Q' fuel listed a w
  | 0, _, _, _, hw, h => ⟨h.1, hQ _ _ hw h.2⟩
  | fuel + 1, _, _, _, hw, h => ⟨fun h0 => hQ _ _ hw (h.1 h0), fun i hi => by
      have hh := h.2 i hi
      unfold qOp at hh
      unfold wpOpIn
      split
      · rename_i ho
        simp only [ho] at hh
        exact wpAnyIn_of_quiet' hd hQ fuel _ _ _ hw hh
      · rename_i o ho
        simp only [ho] at hh
        have hm : o ∈ L := by
          have := Array.mem_of_getElem? ho
          simpa using this
        split
        · rename_i hw'
          simp only [hw', if_true] at hh
          exact wpIn_of_quiet (noDefer_at hd hm) hw (fun a' w' hw' => wpAnyIn_of_quiet' hd hQ fuel _ a' w' hw') hh
        · rename_i hw'
          simp only [hw'] at hh
          exact ⟨fun _ _ => trivial, wpAnyIn_of_quiet' hd hQ fuel _ _ _ hw hh⟩⟩

/-- ONE WALK OF THE TEXT's ORDER SERVES EVERY ORDER, IN A ROUND. -/
theorem wpIn_round_quiet {P : Program} {l n id : Nat} {Q : Exit → Act → World → Prop} {a : Act} {w : World} {L : List Oper} (hd : noDefer L = true) (hm : P.follows .mixedOrders = true) (hB : Region.lexB .any L.toArray = true)
    (h : wpQuiet P L.toArray (fun w' => ∃ n, w' = w.drewN n) (fun a' => ∀ w', (∃ n, w' = w.drewN n) → Q .normal a' w') L a) : (Code.region id L.toArray true).wpIn (Fence.wide.inRound l) n P Q a w := by
  simp only [Region.lexB, Bool.and_eq_true] at hB
  refine wpIn_region_any hm (wpAnyIn_of_quiet' (Q := fun a' => ∀ w', (∃ n, w' = w.drewN n) → Q .normal a' w') hd (fun _ w' hw' h => h w' hw') _ _ _ _ ⟨1, rfl⟩ ?_)
  have := wpAnyQ_lex (P := P) (md := .any) (C := fun w' => ∃ n, w' = w.drewN n) hB.1 L 0 (Array.replicate L.toArray.size false) a (by simp) (by simpa using hB.2) h
  simpa using this
end Go.Proofs.YtiobfdfmfgjpfaaDoor

/-
  A range over a function whose iterator may have a receiver bound to it (a method value); the frame of a round is found by the walk of the assignment. No program is named here.
-/
namespace Go.Proofs.YtiobfdfmfgjpfaaDoor
open Go.RowKit Go.Shelf

/-- The value of an iterator, perhaps with a receiver bound to it (fb), made ahead of w, whose boxes lie from lo up to hi: called in a later world in which they lie as they lay, at whatever loop's yield, it tells all of xs in its order, or stops where a round says so. J and Jx are the caller's; the iterator keeps what lay ahead of its call, and cells beyond its window. -/
def SeqV {α : Type} (P : Program) (g : Nat) (fb lb : Array Value) (encs : α → Array Value) (lo hi : Nat) (xs : List α) (w : World) : Prop :=
  ∀ (l : Nat) (J Jx : Nat → List α → World → Prop) (W : World), Keeps lo hi w W →
    (∀ B pre X Y, W.heap.size ≤ B → J B pre X → Outside W.heap.size B X Y → J B pre Y) →
    (∀ B pre X Y, W.heap.size ≤ B → Jx B pre X → Outside W.heap.size B X Y → Jx B pre Y) →
    (∀ B pre x X, W.heap.size ≤ B → B ≤ X.heap.size → pre ++ [x] <+: xs → J B pre X → YieldAt Fence.wide 0 P l (encs x) X fun e Y =>
      ∃ b : Bool, e = .returned (.bool b) ∧ Keeps lo hi X Y ∧ Keeps W.heap.size B X Y ∧ (if b then J B (pre ++ [x]) Y else Jx B (pre ++ [x]) Y)) →
    (∀ X, Below W.heap.size W X → J X.heap.size [] X) →
    Calls P g (fb ++ #[.func (.yield l) #[] #[]] ++ lb) W fun e Y => (∃ v, e = .returned v) ∧ ∃ B, W.heap.size ≤ B ∧ (J B xs Y ∨ ∃ pre, pre <+: xs ∧ Jx B pre Y)

theorem SeqW.seqV {α : Type} {P : Program} {g : Nat} {lb : Array Value} {encs : α → Array Value} {lo hi : Nat} {xs : List α} {w : World} (h : SeqW P g lb encs lo hi xs w) : SeqV P g #[] lb encs lo hi xs w := fun l J Jx W h1 h2 h3 h4 h5 => by
  have := h l J Jx W h1 h2 h3 h4 h5
  rw [Array.empty_append]
  exact this

theorem range_seqV {α : Type} {n m : Nat} {P : Program} {g : Operand} {ps : Array Tmp} {assign body : Code} {Q : Exit → Act → World → Prop} {a : Act} {w : World}
    {gf : Nat} {fb lb : Array Value} (hg : a.eval g = .func (.func gf) fb lb) (eg : ∀ args w, (callFunc gf args).run P w = .ok (.enter gf args) w)
    {encs : α → Array Value} {lo hi : Nat} {xs : List α} (hseq : SeqV P gf fb lb encs lo hi xs w) (hhi : hi ≤ w.heap.size) (hps : ∀ x, (encs x).size = ps.size)
    (I : Nat → List α → World → Prop) (Ix : Nat → Code → List α → World → Prop)
    (hI : ∀ B pre X Y, w.heap.size + 2 ≤ B → I B pre X → Outside w.heap.size B X Y → I B pre Y)
    (hIx : ∀ B c pre X Y, w.heap.size + 2 ≤ B → Ix B c pre X → Outside w.heap.size B X Y → Ix B c pre Y)
    (h0 : ∀ X, Below w.heap.size w X → w.heap.size + 2 ≤ X.heap.size → I X.heap.size [] X)
    (hab : ∃ a₁ : α → Act, (∀ (l : Nat) (x : α) (W : World) (K : Act → World → Prop), K (a₁ x) W →
      assign.wpIn (Fence.wide.inRound l) m P (Exit.then K (fun _ _ _ => False)) { tmps := (ps.zip (encs x)).foldl (fun t (p, v) => t.setIfInBounds p v) a.tmps, defers := [] } W) ∧
      (∀ (l B : Nat) (pre : List α) (x : α) (W : World), w.heap.size + 2 ≤ B → B ≤ W.heap.size → pre ++ [x] <+: xs → I B pre W →
      body.wpIn (Fence.wide.inRound l) m P (wPost lo hi w.heap.size B (I B) (Ix B) (pre ++ [x]) W) (a₁ x) W))
    (hdone : ∀ (B : Nat) (W : World), w.heap.size + 2 ≤ B → I B xs W → W.heap[w.heap.size]? = some (.deferred (some [])) → Q .normal { a with defers := { target := .collected w.heap.size, args := #[] } :: a.defers } W)
    (hstop : ∀ (B : Nat) (c : Code) (pre : List α) (W : World), w.heap.size + 2 ≤ B → pre <+: xs → Ix B c pre W → W.heap[w.heap.size]? = some (.deferred (some [])) →
      c.wpIn Fence.wide n P Q { a with defers := { target := .collected w.heap.size, args := #[] } :: a.defers } W) :
    (Code.rangeFunc g ps assign body).wpIn Fence.wide n P Q a w := by
  obtain ⟨a₁, hassign, hbody⟩ := hab
  refine wpIn_rangeFunc fun fn _ => ?_
  let rec' : LoopState → Option Code → Loop := fun st pe => { state := st, pending := pe, fn := fn, tmps := a.tmps, params := ps, assign := assign, body := body, defers := w.heap.size }
  obtain ⟨W0, hW0⟩ : ∃ W0, (w.alloc (.deferred (some []))).alloc (.loop (rec' .ready none)) = W0 := ⟨_, rfl⟩
  have hz : W0.heap.size = w.heap.size + 2 := by rw [← hW0]; simp
  have hB0 : Below w.heap.size w W0 := by rw [← hW0]; exact ((Below.refl _ w).alloc (Nat.le_refl _) _).alloc (by simp) _
  have hl0 : W0.heap[w.heap.size + 1]? = some (.loop (rec' .ready none)) := by
    have := World.alloc_heap_new (w.alloc (.deferred (some []))) (.loop (rec' .ready none))
    rw [World.size_alloc] at this
    rw [← hW0]; exact this
  have hd0 : W0.heap[w.heap.size]? = some (.deferred (some [])) := by
    rw [← hW0]; exact (Below.heap_alloc _ _ _ (by simp)).trans (World.alloc_heap_new w _)
  refine ⟨w.heap.size + 1, [{ target := .collected w.heap.size, args := #[] }], W0, { target := .fn (.func gf) lb, args := fb ++ #[.func (.yield (w.heap.size + 1)) #[] #[]] }, W0, gf,
    fb ++ #[.func (.yield (w.heap.size + 1)) #[] #[]] ++ lb, W0, ?_, ?_, fun _ _ => trivial, ?_, (fun h => by cases h), ?_⟩
  · rw [← hW0]; exact run_enterLoop_outer _ _ _ _ _
  · simp only [resolve, hg]; simp [go_sem]
  · simp [invoke, go_sem, eg]
  refine callsIn_wide.2 ?_
  refine (hseq (w.heap.size + 1)
    (fun B pre X => I B pre X ∧ X.heap[w.heap.size + 1]? = some (.loop (rec' .ready none)) ∧ X.heap[w.heap.size]? = some (.deferred (some [])))
    (fun B pre X => ∃ c, Ix B c pre X ∧ X.heap[w.heap.size + 1]? = some (.loop (rec' .done (some c))) ∧ X.heap[w.heap.size]? = some (.deferred (some [])))
    W0 (Keeps.of_below hB0 hhi) ?_ ?_ ?_ ?_).mono ?_
  · rintro B pre X Y hB ⟨h1, h2, h3⟩ ho
    exact ⟨hI B pre X Y (by omega) h1 (ho.mono (by omega)), ho.block _ _ h2 (.inl (by omega)), ho.block _ _ h3 (.inl (by omega))⟩
  · rintro B pre X Y hB ⟨c, h1, h2, h3⟩ ho
    exact ⟨c, hIx B c pre X Y (by omega) h1 (ho.mono (by omega)), ho.block _ _ h2 (.inl (by omega)), ho.block _ _ h3 (.inl (by omega))⟩
  · rintro B pre x X hB hBX hpre ⟨hi1, hl, hd⟩
    have hy := run_yield (P := P) (args := encs x) hl (hps x)
    refine YieldAt.wide (m := m) ⟨fn, _, assign, body, hy, roundIn_of_wpIn (wide_fn fn) (hassign _ x X _ ⟨_, run_beginRound hl rfl, ?_⟩)⟩
    clear hy
    have hlt : w.heap.size + 1 < X.heap.size := (Array.getElem?_eq_some_iff.1 hl).1
    obtain ⟨X1, hX1⟩ : ∃ X1, X.putObj (w.heap.size + 1) (.loop { rec' .ready none with state := .busy }) = X1 := ⟨_, rfl⟩
    have ho1 : Outside w.heap.size B X X1 := by rw [← hX1]; exact Outside.putObj _ (by omega) hl rfl
    have hk1 : ∀ A' B', w.heap.size + 2 ≤ A' ∨ B' ≤ w.heap.size → Keeps A' B' X X1 := fun A' B' h => by rw [← hX1]; exact (Keeps.refl _ _ _).putObj (by omega) _
    have hl1 : X1.heap[w.heap.size + 1]? = some (.loop { rec' .ready none with state := .busy }) := by rw [← hX1]; exact World.putObj_heap_same hlt
    have hd1 : X1.heap[w.heap.size]? = some (.deferred (some [])) := by rw [← hX1]; exact (World.putObj_heap_other (by omega)).trans hd
    have hz1 : X1.heap.size = X.heap.size := by rw [← hX1]; simp
    rw [hX1]
    refine wpIn_mono (hbody _ B pre x X1 (by omega) (by omega) hpre (hI B pre X X1 (by omega) hi1 ho1)) ?_
    have fin : ∀ (jump : Option Code) (Z : World), Keeps lo hi X1 Z → Keeps w.heap.size B X1 Z →
        ∃ Z', (Instr.endRound (w.heap.size + 1) jump).run P Z = .ok (.bool jump.isNone) Z' ∧ Z'.heap[w.heap.size + 1]? = some (.loop (rec' (if jump.isNone then .ready else .done) jump)) ∧
          Z'.heap[w.heap.size]? = some (.deferred (some [])) ∧ Keeps lo hi X Z' ∧ Keeps W0.heap.size B X Z' ∧ Outside w.heap.size B Z Z' := fun jump Z k1 k2 => by
      have hl2 : Z.heap[w.heap.size + 1]? = some (.loop { rec' .ready none with state := .busy }) := (k2.same _ (by omega) (by omega)).trans hl1
      have hd2 : Z.heap[w.heap.size]? = some (.deferred (some [])) := (k2.same _ (by omega) (by omega)).trans hd1
      refine ⟨_, run_endRound jump hl2, World.putObj_heap_same (Array.getElem?_eq_some_iff.1 hl2).1, (World.putObj_heap_other (by omega)).trans hd2, ?_, ?_, Outside.putObj _ (by omega) hl2 rfl⟩
      · exact ((hk1 lo hi (.inr hhi)).trans k1).putObj (.inr (by omega)) _
      · exact ((hk1 _ _ (.inl (by omega))).trans (k2.mono (by omega) (Nat.le_refl _))).putObj (.inl (by omega)) _
    rintro e a3 Z hp
    cases e with
    | normal =>
      obtain ⟨k1, k2, k3⟩ := hp
      obtain ⟨Z', r1, r2, r3, r4, r5, r6⟩ := fin none Z k1 k2
      exact ⟨_, _, r1, true, rfl, r4, r5, hI B _ Z Z' (by omega) k3 r6, r2, r3⟩
    | ret =>
      obtain ⟨k1, k2, k3⟩ := hp
      obtain ⟨Z', r1, r2, r3, r4, r5, r6⟩ := fin (some .ret) Z k1 k2
      exact ⟨_, _, r1, false, rfl, r4, r5, .ret, hIx B _ _ Z Z' (by omega) k3 r6, r2, r3⟩
    | exit id =>
      obtain ⟨k1, k2, k3⟩ := hp
      obtain ⟨Z', r1, r2, r3, r4, r5, r6⟩ := fin (some (.exit id)) Z k1 k2
      exact ⟨_, _, r1, false, rfl, r4, r5, .exit id, hIx B _ _ Z Z' (by omega) k3 r6, r2, r3⟩
    | goto t =>
      obtain ⟨k1, k2, k3⟩ := hp
      obtain ⟨Z', r1, r2, r3, r4, r5, r6⟩ := fin (some (.goto t)) Z k1 k2
      exact ⟨_, _, r1, false, rfl, r4, r5, .goto t, hIx B _ _ Z Z' (by omega) k3 r6, r2, r3⟩
    | panic ch => exact hp.elim
    | outgrown => exact hp.elim
  · intro X hX
    exact ⟨h0 X (hB0.trans (hX.mono (by omega))) (by have := hX.size; omega), (hX.block _ (by omega)).trans hl0, (hX.block _ (by omega)).trans hd0⟩
  · rintro e Z ⟨⟨v, rfl⟩, B, hB, (⟨k1, k2, k3⟩ | ⟨pre, hpre, c, k1, k2, k3⟩)⟩
    · exact ⟨none, _, run_endLoop k2 (by intro h; cases h), hdone B _ (by omega) (hI B _ _ _ (by omega) k1 (Outside.putObj _ (by omega) k2 rfl)) ((World.putObj_heap_other (by omega)).trans k3)⟩
    · exact ⟨some c, _, run_endLoop k2 (by intro h; cases h), hstop B c pre _ (by omega) hpre (hIx B _ _ _ _ (by omega) k1 (Outside.putObj _ (by omega) k2 rfl)) ((World.putObj_heap_other (by omega)).trans k3)⟩
end Go.Proofs.YtiobfdfmfgjpfaaDoor
