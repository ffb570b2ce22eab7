import Derived.Test.YthlghokgknkpaaaDoorP1To
import Derived.Test.YthlghokgknkpaaaDoorSwPTo
import Derived.Test.YthlghokgknkpaaaDoorRqTo
import Derived.BigQuiet
import Derived.Deep.QuietTactic
import Derived.WalkSmall
import Derived.MapKept
/-
  A range over a function whose iterator may have a receiver bound to it (a method value); the frame of a round is found by the walk of the assignment. No program is named here.
-/
namespace Go.Proofs.YthlghokgknkpaaaDoor
open Go.RowKit Go.Shelf

/-- The value of an iterator, perhaps with a receiver bound to it (fb), made ahead of w, whose boxes lie from lo up to hi: called in a later world in which they lie as they lay, at whatever loop's yield, it tells all of xs in its order, or stops where a round says so. J and Jx are the caller's; the iterator keeps what lay ahead of its call, and cells beyond its window. -/
def SeqV {α : Type} (P : Program) (g : Nat) (fb lb : Array Value) (encs : α → Array Value) (lo hi : Nat) (xs : List α) (w : World) : Prop :=
  ∀ (l : Nat) (J Jx : Nat → List α → World → Prop) (W : World), Keeps lo hi w W →
    (∀ B pre X Y, W.heap.size ≤ B → J B pre X → Outside W.heap.size B X Y → J B pre Y) →
    (∀ B pre X Y, W.heap.size ≤ B → Jx B pre X → Outside W.heap.size B X Y → Jx B pre Y) →
    (∀ B pre x X, W.heap.size ≤ B → B ≤ X.heap.size → pre ++ [x] <+: xs → J B pre X → YieldAt Fence.wide 0 P l (encs x) X fun e Y =>
      ∃ b : Bool, e = .returned (.bool b) ∧ Keeps lo hi X Y ∧ Keeps W.heap.size B X Y ∧ (if b then J B (pre ++ [x]) Y else Jx B (pre ++ [x]) Y)) →
    (∀ X, Below W.heap.size W X → J X.heap.size [] X) →
    Calls P g (fb ++ #[.func (.yield l) #[] #[]] ++ lb) W fun e Y => (∃ v, e = .returned v) ∧ ∃ B, W.heap.size ≤ B ∧ (J B xs Y ∨ ∃ pre, pre <+: xs ∧ Jx B pre Y)

theorem SeqW.seqV {α : Type} {P : Program} {g : Nat} {lb : Array Value} {encs : α → Array Value} {lo hi : Nat} {xs : List α} {w : World} (h : SeqW P g lb encs lo hi xs w) : SeqV P g #[] lb encs lo hi xs w := fun l J Jx W h1 h2 h3 h4 h5 => by
  have := h l J Jx W h1 h2 h3 h4 h5
  rw [Array.empty_append]
  exact this

theorem range_seqV {α : Type} {n m : Nat} {P : Program} {g : Operand} {ps : Array Tmp} {assign body : Code} {Q : Exit → Act → World → Prop} {a : Act} {w : World}
    {gf : Nat} {fb lb : Array Value} (hg : a.eval g = .func (.func gf) fb lb) (eg : ∀ args w, (callFunc gf args).run P w = .ok (.enter gf args) w)
    {encs : α → Array Value} {lo hi : Nat} {xs : List α} (hseq : SeqV P gf fb lb encs lo hi xs w) (hhi : hi ≤ w.heap.size) (hps : ∀ x, (encs x).size = ps.size)
    (I : Nat → List α → World → Prop) (Ix : Nat → Code → List α → World → Prop)
    (hI : ∀ B pre X Y, w.heap.size + 2 ≤ B → I B pre X → Outside w.heap.size B X Y → I B pre Y)
    (hIx : ∀ B c pre X Y, w.heap.size + 2 ≤ B → Ix B c pre X → Outside w.heap.size B X Y → Ix B c pre Y)
    (h0 : ∀ X, Below w.heap.size w X → w.heap.size + 2 ≤ X.heap.size → I X.heap.size [] X)
    (hab : ∃ a₁ : α → Act, (∀ (l : Nat) (x : α) (W : World) (K : Act → World → Prop), K (a₁ x) W →
      assign.wpIn (Fence.wide.inRound l) m P (Exit.then K (fun _ _ _ => False)) { tmps := (ps.zip (encs x)).foldl (fun t (p, v) => t.setIfInBounds p v) a.tmps, defers := [] } W) ∧
      (∀ (l B : Nat) (pre : List α) (x : α) (W : World), w.heap.size + 2 ≤ B → B ≤ W.heap.size → pre ++ [x] <+: xs → I B pre W →
      body.wpIn (Fence.wide.inRound l) m P (wPost lo hi w.heap.size B (I B) (Ix B) (pre ++ [x]) W) (a₁ x) W))
    (hdone : ∀ (B : Nat) (W : World), w.heap.size + 2 ≤ B → I B xs W → W.heap[w.heap.size]? = some (.deferred (some [])) → Q .normal { a with defers := { target := .collected w.heap.size, args := #[] } :: a.defers } W)
    (hstop : ∀ (B : Nat) (c : Code) (pre : List α) (W : World), w.heap.size + 2 ≤ B → pre <+: xs → Ix B c pre W → W.heap[w.heap.size]? = some (.deferred (some [])) →
      c.wpIn Fence.wide n P Q { a with defers := { target := .collected w.heap.size, args := #[] } :: a.defers } W) :
    (Code.rangeFunc g ps assign body).wpIn Fence.wide n P Q a w := by
  obtain ⟨a₁, hassign, hbody⟩ := hab
  refine wpIn_rangeFunc fun fn _ => ?_
  let rec' : LoopState → Option Code → Loop := fun st pe => { state := st, pending := pe, fn := fn, tmps := a.tmps, params := ps, assign := assign, body := body, defers := w.heap.size }
  obtain ⟨W0, hW0⟩ : ∃ W0, (w.alloc (.deferred (some []))).alloc (.loop (rec' .ready none)) = W0 := ⟨_, rfl⟩
  have hz : W0.heap.size = w.heap.size + 2 := by rw [← hW0]; simp
  have hB0 : Below w.heap.size w W0 := by rw [← hW0]; exact ((Below.refl _ w).alloc (Nat.le_refl _) _).alloc (by simp) _
  have hl0 : W0.heap[w.heap.size + 1]? = some (.loop (rec' .ready none)) := by
    have := World.alloc_heap_new (w.alloc (.deferred (some []))) (.loop (rec' .ready none))
    rw [World.size_alloc] at this
    rw [← hW0]; exact this
  have hd0 : W0.heap[w.heap.size]? = some (.deferred (some [])) := by
    rw [← hW0]; exact (Below.heap_alloc _ _ _ (by simp)).trans (World.alloc_heap_new w _)
  refine ⟨w.heap.size + 1, [{ target := .collected w.heap.size, args := #[] }], W0, { target := .fn (.func gf) lb, args := fb ++ #[.func (.yield (w.heap.size + 1)) #[] #[]] }, W0, gf,
    fb ++ #[.func (.yield (w.heap.size + 1)) #[] #[]] ++ lb, W0, ?_, ?_, fun _ _ => trivial, ?_, (fun h => by cases h), ?_⟩
  · rw [← hW0]; exact run_enterLoop_outer _ _ _ _ _
  · simp only [resolve, hg]; simp [go_sem]
  · simp [invoke, go_sem, eg]
  refine callsIn_wide.2 ?_
  refine (hseq (w.heap.size + 1)
    (fun B pre X => I B pre X ∧ X.heap[w.heap.size + 1]? = some (.loop (rec' .ready none)) ∧ X.heap[w.heap.size]? = some (.deferred (some [])))
    (fun B pre X => ∃ c, Ix B c pre X ∧ X.heap[w.heap.size + 1]? = some (.loop (rec' .done (some c))) ∧ X.heap[w.heap.size]? = some (.deferred (some [])))
    W0 (Keeps.of_below hB0 hhi) ?_ ?_ ?_ ?_).mono ?_
  · rintro B pre X Y hB ⟨h1, h2, h3⟩ ho
    exact ⟨hI B pre X Y (by omega) h1 (ho.mono (by omega)), ho.block _ _ h2 (.inl (by omega)), ho.block _ _ h3 (.inl (by omega))⟩
  · rintro B pre X Y hB ⟨c, h1, h2, h3⟩ ho
    exact ⟨c, hIx B c pre X Y (by omega) h1 (ho.mono (by omega)), ho.block _ _ h2 (.inl (by omega)), ho.block _ _ h3 (.inl (by omega))⟩
  · rintro B pre x X hB hBX hpre ⟨hi1, hl, hd⟩
    have hy := run_yield (P := P) (args := encs x) hl (hps x)
    refine YieldAt.wide (m := m) ⟨fn, _, assign, body, hy, roundIn_of_wpIn (wide_fn fn) (hassign _ x X _ ⟨_, run_beginRound hl rfl, ?_⟩)⟩
    clear hy
    have hlt : w.heap.size + 1 < X.heap.size := (Array.getElem?_eq_some_iff.1 hl).1
    obtain ⟨X1, hX1⟩ : ∃ X1, X.putObj (w.heap.size + 1) (.loop { rec' .ready none with state := .busy }) = X1 := ⟨_, rfl⟩
    have ho1 : Outside w.heap.size B X X1 := by rw [← hX1]; exact Outside.putObj _ (by omega) hl rfl
    have hk1 : ∀ A' B', w.heap.size + 2 ≤ A' ∨ B' ≤ w.heap.size → Keeps A' B' X X1 := fun A' B' h => by rw [← hX1]; exact (Keeps.refl _ _ _).putObj (by omega) _
    have hl1 : X1.heap[w.heap.size + 1]? = some (.loop { rec' .ready none with state := .busy }) := by rw [← hX1]; exact World.putObj_heap_same hlt
    have hd1 : X1.heap[w.heap.size]? = some (.deferred (some [])) := by rw [← hX1]; exact (World.putObj_heap_other (by omega)).trans hd
    have hz1 : X1.heap.size = X.heap.size := by rw [← hX1]; simp
    rw [hX1]
    refine wpIn_mono (hbody _ B pre x X1 (by omega) (by omega) hpre (hI B pre X X1 (by omega) hi1 ho1)) ?_
    have fin : ∀ (jump : Option Code) (Z : World), Keeps lo hi X1 Z → Keeps w.heap.size B X1 Z →
        ∃ Z', (Instr.endRound (w.heap.size + 1) jump).run P Z = .ok (.bool jump.isNone) Z' ∧ Z'.heap[w.heap.size + 1]? = some (.loop (rec' (if jump.isNone then .ready else .done) jump)) ∧
          Z'.heap[w.heap.size]? = some (.deferred (some [])) ∧ Keeps lo hi X Z' ∧ Keeps W0.heap.size B X Z' ∧ Outside w.heap.size B Z Z' := fun jump Z k1 k2 => by
      have hl2 : Z.heap[w.heap.size + 1]? = some (.loop { rec' .ready none with state := .busy }) := (k2.same _ (by omega) (by omega)).trans hl1
      have hd2 : Z.heap[w.heap.size]? = some (.deferred (some [])) := (k2.same _ (by omega) (by omega)).trans hd1
      refine ⟨_, run_endRound jump hl2, World.putObj_heap_same (Array.getElem?_eq_some_iff.1 hl2).1, (World.putObj_heap_other (by omega)).trans hd2, ?_, ?_, Outside.putObj _ (by omega) hl2 rfl⟩
      · exact ((hk1 lo hi (.inr hhi)).trans k1).putObj (.inr (by omega)) _
      · exact ((hk1 _ _ (.inl (by omega))).trans (k2.mono (by omega) (Nat.le_refl _))).putObj (.inl (by omega)) _
    rintro e a3 Z hp
    cases e with
    | normal =>
      obtain ⟨k1, k2, k3⟩ := hp
      obtain ⟨Z', r1, r2, r3, r4, r5, r6⟩ := fin none Z k1 k2
      exact ⟨_, _, r1, true, rfl, r4, r5, hI B _ Z Z' (by omega) k3 r6, r2, r3⟩
    | ret =>
      obtain ⟨k1, k2, k3⟩ := hp
      obtain ⟨Z', r1, r2, r3, r4, r5, r6⟩ := fin (some .ret) Z k1 k2
      exact ⟨_, _, r1, false, rfl, r4, r5, .ret, hIx B _ _ Z Z' (by omega) k3 r6, r2, r3⟩
    | exit id =>
      obtain ⟨k1, k2, k3⟩ := hp
      obtain ⟨Z', r1, r2, r3, r4, r5, r6⟩ := fin (some (.exit id)) Z k1 k2
      exact ⟨_, _, r1, false, rfl, r4, r5, .exit id, hIx B _ _ Z Z' (by omega) k3 r6, r2, r3⟩
    | goto t =>
      obtain ⟨k1, k2, k3⟩ := hp
      obtain ⟨Z', r1, r2, r3, r4, r5, r6⟩ := fin (some (.goto t)) Z k1 k2
      exact ⟨_, _, r1, false, rfl, r4, r5, .goto t, hIx B _ _ Z Z' (by omega) k3 r6, r2, r3⟩
    | panic ch => exact hp.elim
    | outgrown => exact hp.elim
  · intro X hX
    exact ⟨h0 X (hB0.trans (hX.mono (by omega))) (by have := hX.size; omega), (hX.block _ (by omega)).trans hl0, (hX.block _ (by omega)).trans hd0⟩
  · rintro e Z ⟨⟨v, rfl⟩, B, hB, (⟨k1, k2, k3⟩ | ⟨pre, hpre, c, k1, k2, k3⟩)⟩
    · exact ⟨none, _, run_endLoop k2 (by intro h; cases h), hdone B _ (by omega) (hI B _ _ _ (by omega) k1 (Outside.putObj _ (by omega) k2 rfl)) ((World.putObj_heap_other (by omega)).trans k3)⟩
    · exact ⟨some c, _, run_endLoop k2 (by intro h; cases h), hstop B c pre _ (by omega) hpre (hIx B _ _ _ _ (by omega) k1 (Outside.putObj _ (by omega) k2 rfl)) ((World.putObj_heap_other (by omega)).trans k3)⟩
end Go.Proofs.YthlghokgknkpaaaDoor

/-
  Contracts: Map[string].made, hash, find.
-/
namespace Go.Proofs.YthlghokgknkpaaaDoor
open Go.RowKit Go.Shelf

theorem made_nil_s (w : World) : Calls Tryd.prog 21 #[.pointer none] w fun e w' => e = .returned (.bool false) ∧ w' = w := by
  go_enter Tryd.func21, Tryd.ntmps21
  go_wp2
  go_ret
  exact ⟨rfl, rfl⟩

theorem made_any_s (b n c : Nat) (p : Option Addr) (w : World) (h : w.cell? ⟨b, 2, none⟩ = some (.slice p n c)) : Calls Tryd.prog 21 #[.pointer (some ⟨b, 0, none⟩)] w fun e w' => e = .returned (.bool (decide (0 < n))) ∧ w' = w := by
  go_enter Tryd.func21, Tryd.ntmps21
  go_wp2
  go_ret
  refine ⟨?_, rfl⟩
  simp

theorem hash_any_s (b bw bs : Nat) (M : SM) (key : ByteArray) (w : World) (h : Lies 60 56 w b bw bs M) (hk : key.size < 140737488355328) :
    Calls Tryd.prog 37 #[.pointer (some ⟨b, 0, none⟩), .string key] w fun e w' => e = .returned (partsV (M.hash key)) ∧ Below w.heap.size w w' := by
  obtain ⟨cw, cs, c0, c1, c2, c3, c4, c5, _, _⟩ := h.cells
  have hs := fun W : World => sum_any M.k0 M.k1 key W hk
  have hw := M.wd_hash key
  unfold SM.hash at hw ⊢
  generalize sumI M.k0 M.k1 (byt key) key.size = x at *
  go_enter Tryd.func37, Tryd.ntmps37
  go_wp2_with fail
  refine (hs _).mono ?_
  rintro e w1 ⟨rfl, hb⟩
  go_wp2_with fail
  refine same_mono (split_any x _ hw) ?_
  unfold partsV
  go_wp2
  go_ret2
  exact ⟨rfl, hb⟩

/-- The hash, parted: where to look, and what stands there. -/
theorem hash_at_s (b bw bs : Nat) (M : SM) (key : ByteArray) (hF : M.Fit) (hk : key.size < 140737488355328) : ∃ H : Int, 0 ≤ H ∧ H < 18446744073709551616 ∧ grpL H M.ws.length = (M.gs key).map (fun g : Nat => (g : Int)) ∧
    ∀ w, Lies 60 56 w b bw bs M →
    Calls Tryd.prog 37 #[.pointer (some ⟨b, 0, none⟩), .string key] w fun e w' => e = .returned (.tuple #[.int .u64 H, .int .u8 (M.what key : Nat)]) ∧ Below w.heap.size w w' := by
  have hw := M.wd_hash key
  refine ⟨M.hash key / 128, ?_, ?_, M.gs_eq hF key, fun w h => ?_⟩
  · have := hw.1
    generalize M.hash key = x at *
    omega
  · have := hw.2
    generalize M.hash key = x at *
    omega
  · have := hash_any_s b bw bs M key w h hk
    unfold partsV at this
    rw [← M.what_eq key] at this
    exact this

set_option maxRecDepth 100000 in
set_option maxHeartbeats 4000000 in
theorem find_any_s (b bw bs : Nat) (M : SM) (key : ByteArray) (w : World) (hT : Tab w) (h : Lies 60 56 w b bw bs M) (hF : M.Fit) (hk : key.size < 140737488355328) :
    Calls Tryd.prog 22 #[.pointer (some ⟨b, 0, none⟩), .string key] w fun e w' => e = .returned (.int .i64 (match M.find key with | some p => (p : Int) | none => -1)) ∧ Below w.heap.size w w' := by
  obtain ⟨cw, cs, c0, c1, c2, c3, c4, c5, hcw, hcs⟩ := h.cells
  have hr := good_range hF.good
  have hlt := h.lt
  obtain ⟨H, hH0, hH1, hgs, hhash⟩ := hash_at_s b bw bs M key hF hk
  obtain ⟨r, hres⟩ : ∃ r : Int, (match M.find key with | some p => (p : Int) | none => -1) = r := ⟨_, rfl⟩
  rw [hres]
  refine (callsIn_wide (n := 9)).1 ?_
  refine callsIn_of_wp_marks Tryd.func22 rfl trivial ?_ rfl
  simp only [Tryd.ntmps22, List.size_toArray, List.length_cons, List.length_nil, Nat.reduceAdd, Nat.reduceSub, Array.replicate_succ, Array.replicate_zero, List.push_toArray, List.append_toArray, List.nil_append, List.cons_append]
  have q0 := Boxed.new w 28 (.pointer (some ⟨b, 0, none⟩))
  have q1 := Boxed.new (w.alloc (.cells #[.pointer (some ⟨b, 0, none⟩)] 28)) 9 (.string key)
  rw [World.size_alloc] at q1
  replace q0 := q0.alloc (.cells #[.string key] 9)
  have hBq : Below w.heap.size w ((w.alloc (.cells #[.pointer (some ⟨b, 0, none⟩)] 28)).alloc (.cells #[.string key] 9)) := ((Below.refl _ w).alloc (Nat.le_refl _) _).alloc (by simp) _
  have hzq : ((w.alloc (.cells #[.pointer (some ⟨b, 0, none⟩)] 28)).alloc (.cells #[.string key] 9)).heap.size = w.heap.size + 2 := by simp
  have k2 := (hBq.cell (p := ⟨b, 2, none⟩) hlt.1).trans c2
  generalize hX0 : (w.alloc (.cells #[.pointer (some ⟨b, 0, none⟩)] 28)).alloc (.cells #[.string key] 9) = X0 at q0 q1 hBq hzq k2
  have e0 := q0.cell
  have e1 := q1.cell
  have hpos : decide (0 < M.ws.length) = true := decide_eq_true (by omega)
  have hmade := made_any_s b _ _ _ X0 k2
  rw [hpos] at hmade
  gi_wp2
  refine scope_wide ?_
  gi_wp2_with (refine ⟨trivial, ?_⟩; gi_at_call 21; refine (callsIn_wide.2 hmade).mono ?_; rintro e w' ⟨rfl, rfl⟩)
  refine ⟨trivial, ?_⟩
  refine (callsIn_wide.2 (hhash _ (h.below hBq (Nat.le_refl _)))).mono ?_
  rintro e W1 ⟨rfl, hB1⟩
  replace q0 : Boxed W1 _ _ _ := (hB1.block _ (by omega)).trans q0
  replace q1 : Boxed W1 _ _ _ := (hB1.block _ (by omega)).trans q1
  have hz1 : w.heap.size + 2 ≤ W1.heap.size := by have := hB1.size; omega
  replace hB1 : Below w.heap.size w W1 := hBq.trans (hB1.mono (by omega))
  clear hmade k2 e0 e1 hBq hzq hX0 hhash w'
  have e0 := q0.cell
  have e1 := q1.cell
  gi_wp2
  refine wpIn_label ?_
  rename_i hK
  refine hK _ _ ?_
  clear hK
  have q2 := Boxed.new W1 5 (.int .u8 (M.what key : Nat))
  have q3 := Boxed.new (W1.alloc (.cells #[.int .u8 (M.what key : Nat)] 5)) 3 (.int .i64 (-1))
  rw [World.size_alloc] at q3
  replace q0 := (q0.alloc (.cells #[.int .u8 (M.what key : Nat)] 5)).alloc (.cells #[.int .i64 (-1)] 3)
  replace q1 := (q1.alloc (.cells #[.int .u8 (M.what key : Nat)] 5)).alloc (.cells #[.int .i64 (-1)] 3)
  replace q2 := q2.alloc (.cells #[.int .i64 (-1)] 3)
  have hB2 : Below w.heap.size w ((W1.alloc (.cells #[.int .u8 (M.what key : Nat)] 5)).alloc (.cells #[.int .i64 (-1)] 3)) := (hB1.alloc (by omega) _).alloc (by simp; omega) _
  have hz2 : ((W1.alloc (.cells #[.int .u8 (M.what key : Nat)] 5)).alloc (.cells #[.int .i64 (-1)] 3)).heap.size = W1.heap.size + 2 := by simp
  generalize (W1.alloc (.cells #[.int .u8 (M.what key : Nat)] 5)).alloc (.cells #[.int .i64 (-1)] 3) = X2 at *
  generalize W1.heap.size = b2 at *
  clear e0 e1 hB1
  have e0 := q0.cell
  have k2 := (hB2.cell (p := ⟨b, 2, none⟩) hlt.1).trans c2
  gi_wp2_with (refine ⟨trivial, ?_⟩; gi_at_call 38; refine (callsIn_wide.2 (seq_any H (M.ws.length : Int) _ (by omega) (by omega))).mono ?_; rw [hz2]; rintro e W5 ⟨rfl, hB5, hz5, s0, s1, s2⟩)
  replace q0 : Boxed W5 _ _ _ := (hB5.block _ (by omega)).trans q0
  replace q1 : Boxed W5 _ _ _ := (hB5.block _ (by omega)).trans q1
  replace q2 : Boxed W5 _ _ _ := (hB5.block _ (by omega)).trans q2
  replace q3 : Boxed W5 _ _ _ := (hB5.block _ (by omega)).trans q3
  replace hB2 := hB2.trans (hB5.mono (by omega))
  clear hB5 e0 k2 hz2 X2
  refine range_seqV (m := 7) (gf := 59) (fb := #[]) (lb := #[.pointer (some ⟨b2 + 2 + 2, 0, none⟩), .pointer (some ⟨b2 + 2, 0, none⟩), .pointer (some ⟨b2 + 2 + 1, 0, none⟩)]) rfl (enters_of Tryd.func59 (by kernel_rfl) rfl)
    (seq1_seq (b2 + 2) H (M.ws.length : Int) hH0 hH1 (by omega) (by omega) W5 (by omega) s0 s1 s2).seqV (by omega) (fun _ => rfl)
    (fun B pre X => Boxed X w.heap.size 28 (.pointer (some ⟨b, 0, none⟩)) ∧ Boxed X (w.heap.size + 1) 9 (.string key) ∧ Boxed X b2 5 (.int .u8 (M.what key : Nat)) ∧ Boxed X (b2 + 1) 3 (.int .i64 (-1)) ∧ Below w.heap.size w X ∧
      ∀ rest, (M.gs key).map (fun g : Nat => (g : Int)) = pre ++ rest → M.find key = M.findG key (rest.map Int.toNat))
    (fun B c pre X => c = .exit 0 ∧ Boxed X (b2 + 1) 3 (.int .i64 r) ∧ Below w.heap.size w X)
    ?hI ?hIx ?h0 ?ab ?done ?stop
  case hI =>
    rintro B pre X Y hB ⟨d0, d1, d2, d3, d4, d5⟩ ho
    exact ⟨ho.box d0 (.inl (by omega)), ho.box d1 (.inl (by omega)), ho.box d2 (.inl (by omega)), ho.box d3 (.inl (by omega)), d4.trans (ho.below (by omega) d4.size), d5⟩
  case hIx =>
    rintro B c pre X Y hB ⟨rfl, d1, d2⟩ ho
    exact ⟨rfl, ho.box d1 (.inl (by omega)), d2.trans (ho.below (by omega) d2.size)⟩
  case h0 =>
    intro X hX _
    refine ⟨(hX.block _ (by omega)).trans q0, (hX.block _ (by omega)).trans q1, (hX.block _ (by omega)).trans q2, (hX.block _ (by omega)).trans q3, hB2.trans (hX.mono (by omega)), fun rest hrest => ?_⟩
    rw [List.nil_append] at hrest
    rw [← hrest, List.map_map]
    unfold SM.find
    congr 1
    exact (List.map_id _).symm
  case ab =>
    apply Exists.intro
    constructor
    · intro l x X K hK
      have hsem := @Oper.semAt_some l
      gi_wp2
      exact hK
    · rintro l B pre x X hB hBX hpre ⟨d0, d1, d2, d3, d4, d5⟩
      have hsem := @Oper.semAt_some l
      rw [hgs] at hpre
      obtain ⟨gx, hgx, rfl⟩ := List.mem_map.1 (hpre.subset (List.mem_append_right _ (List.mem_singleton.2 rfl)))
      have hgl := SM.gs_lt hF key gx hgx
      obtain ⟨rest, hrest⟩ := hpre
      have hfind : Hid (M.find key = M.findG key (gx :: rest.map Int.toNat)) := by
        have := d5 ((gx : Int) :: rest) (by rw [← hrest]; simp)
        rw [List.map_cons, Int.toNat_natCast] at this
        exact this
      have hd6 : Hid (∀ rest' : List Int, (M.gs key).map (fun g : Nat => (g : Int)) = (pre ++ [(gx : Int)]) ++ rest' → rest' = rest) := fun rest' he => by
        rw [← hrest] at he
        exact (List.append_cancel_left he).symm
      clear hrest d5
      have hL := h.below d4 (Nat.le_refl _)
      have hTX : Tab X := hT.below d4 (by have := hT.1; omega)
      obtain ⟨dw, ds, _, _, k2, k3, _, _, hdw, hds⟩ := hL.cells
      have kw := hL.word gx hgl
      have hwl := hF.words gx hgl
      have hhit : Hid (M.hit key gx = (slotsL (matchN (M.w gx) (M.what key))).find? fun i => decide ((M.s (8 * gx + i)).1 = key)) := hit_eq M key gx
      have hE : Hid (hasE (M.w gx) = !decide (matchN (M.w gx) 128 = 0)) := hasE_match _
      have hwhat := M.what_lt key
      have e0 := d0.cell
      have e1 := d1.cell
      have e2 := d2.cell
      have hkey : ∀ i, i < 8 → X.cell? ⟨bs, (8 * gx + i) * 2, none⟩ = some (.string (M.s (8 * gx + i)).1) := fun i hi => hL.key _ (by rw [hF.slots]; omega)
      generalize hwd0 : M.w gx = wd at *
      have hwd : Hid (M.w gx = wd) := hwd0
      clear hwd0
      have hset := matchN_lt wd (M.what key)
      have hset2 := matchN_lt wd 128
      gi_wp2_with (refine ⟨trivial, ?_⟩; gi_at_call 39; refine (CallsIn.inRound l (callsIn_wide.2 (match_any wd (M.what key) _ hwl (by omega)))).mono ?_; rintro e X ⟨rfl, rfl⟩)
      gi_loopw [10] (fun p wr => ∃ q : Nat, p = .int .u8 (q : Nat) ∧ q < 256 ∧ Hid (M.hit key gx = (slotsL q).find? fun i => decide ((M.s (8 * gx + i)).1 = key)) ∧ ∃ m, wr = X.drewN m) (fun p _ => (slotsL (intOf p).toNat).length)
      case atStart => exact ⟨_, rfl, hset, hhit, 0, rfl⟩
      case round =>
        obtain ⟨q, rfl, hq, hq2, m, rfl⟩ := hrel
        clear hhit
        have hbel : Below w.heap.size w (X.drewN m) := ⟨d4.os, d4.tape, d4.output, d4.size, d4.block⟩
        by_cases h0q : q = 0
        · subst h0q
          have hnone : Hid (M.hit key gx = none) := by
            have := hq2.out
            rw [slots_zero] at this
            exact this
          by_cases hem : matchN wd 128 = 0
          · gi_wp2_with (refine ⟨trivial, ?_⟩; gi_at_call 42; refine (CallsIn.inRound l (callsIn_wide.2 (empties_any wd _ hwl))).mono ?_; rintro e Y ⟨rfl, rfl⟩; rw [hem])
            refine ⟨⟨Nat.le_refl _, fun _ _ _ => rfl⟩, ⟨Nat.le_refl _, fun _ _ _ => rfl⟩, d0, d1, d2, d3, hbel, fun rest' he => ?_⟩
            rw [hd6.out rest' he, hfind.out, SM.findG, hnone.out, hwd.out, hE.out, hem]
            rfl
          · have hem' : (matchN wd 128 : Int) ≠ 0 := by omega
            have hr1 : Hid (r = -1) := by
              show r = -1
              rw [← hres, hfind.out, SM.findG, hnone.out, hwd.out, hE.out, decide_eq_false hem]
              rfl
            gi_wp2_with (refine ⟨trivial, ?_⟩; gi_at_call 42; refine (CallsIn.inRound l (callsIn_wide.2 (empties_any wd _ hwl))).mono ?_; rintro e Y ⟨rfl, rfl⟩)
            refine ⟨⟨Nat.le_refl _, fun _ _ _ => rfl⟩, ⟨Nat.le_refl _, fun _ _ _ => rfl⟩, rfl, ?_, hbel⟩
            rw [hr1.out]
            exact d3
        · have hst := slots_step ⟨q, hq⟩ h0q
          dsimp only at hst
          have hf8 : firstN q < 8 := by
            have : firstN q ∈ slotsL q := by rw [hst]; exact List.mem_cons_self
            exact List.mem_range.1 (List.mem_filter.1 this).1
          have hq2' := hq2.out
          rw [hst, List.find?_cons] at hq2'
          have hk1 := hkey (firstN q) hf8
          have hn8 := nextN_lt q hq
          have hlen : Hid ((slotsL (nextN q)).length < (slotsL q).length) := by
            show _ < _
            rw [hst]; simp
          have hf := first_any q (X.drewN m) hTX hq
          clear hst hkey hq2
          have hs8 := hF.slots
          have hi1 : 8 * (gx : Int) + (firstN q : Nat) < M.ss.length := by omega
          clear hs8
          generalize firstN q = f at *
          have d3' : Boxed (X.drewN m) (b2 + 1) 3 (.int .i64 (-1)) := d3
          by_cases hke : (M.s (8 * gx + f)).1 = key
          · have hr1 : Hid (r = 8 * (gx : Int) + f) := by
              show r = _
              rw [decide_eq_true hke] at hq2'
              rw [← hres, hfind.out, SM.findG, hq2']
              show ((8 * gx + f : Nat) : Int) = _
              omega
            clear hq2'
            have e3 := d3.cell
            have f3 := d3.frozen
            gi_wp2_with (refine ⟨trivial, ?_⟩; gi_at_call 41; refine (CallsIn.inRound l (callsIn_wide.2 hf)).mono ?_; rintro e Y ⟨rfl, rfl⟩)
            refine wpIn_round_quiet (by kernel_rfl) (by kernel_rfl) (by kernel_rfl) ?_
            repeat (go_big_quiet_step (fail))
            refine wpQuiet_nil ?_
            rintro _ ⟨nq, rfl⟩
            gi_wp2
            have d3n : Boxed (X.drewN (m + nq)) (b2 + 1) 3 (.int .i64 (-1)) := d3
            refine ⟨((⟨Nat.le_refl _, fun _ _ _ => rfl⟩ : Keeps (b2 + 2) (b2 + 2 + 3) X (X.drewN (m + nq)))).setCell (p := ⟨b2 + 1, 0, none⟩) (.inl (Nat.lt_succ_self _)) _, ((⟨Nat.le_refl _, fun _ _ _ => rfl⟩ : Keeps W5.heap.size B X (X.drewN (m + nq)))).setCell (p := ⟨b2 + 1, 0, none⟩) (.inl (by show b2 + 1 < _; omega)) _, rfl, ?_, ?_⟩
            · rw [hr1.out]
              exact d3n.set _
            · exact (⟨hbel.os, hbel.tape, hbel.output, hbel.size, hbel.block⟩ : Below w.heap.size w (X.drewN (m + nq))).setCell (p := ⟨b2 + 1, 0, none⟩) (by show _ ≤ b2 + 1; omega) _
          · have hq3 : Hid (M.hit key gx = (slotsL (nextN q)).find? fun i => decide ((M.s (8 * gx + i)).1 = key)) := by
              rw [decide_eq_false hke] at hq2'
              exact hq2'
            clear hq2'
            have hke' := str_ne hke
            gi_wp2_with (refine ⟨trivial, ?_⟩; gi_at_call 41; refine (CallsIn.inRound l (callsIn_wide.2 hf)).mono ?_; rintro e Y ⟨rfl, rfl⟩)
            refine wpIn_round_quiet (by kernel_rfl) (by kernel_rfl) (by kernel_rfl) ?_
            repeat (go_big_quiet_step (fail))
            refine wpQuiet_nil ?_
            rintro _ ⟨nq, rfl⟩
            gi_wp2_with (refine ⟨trivial, ?_⟩; gi_at_call 40; refine (CallsIn.inRound l (callsIn_wide.2 (next_any q _ hq))).mono ?_; rintro e Y ⟨rfl, rfl⟩)
            go_roundw
            case rel => exact ⟨nextN q, rfl, hn8, hq3, m + nq, rfl⟩
            case measure => exact hlen.out
  case done =>
    rintro B X hB ⟨d0, d1, d2, d3, d4, d5⟩ hD
    have hr1 : Hid (r = -1) := by
      show r = -1
      have := d5 [] (by rw [hgs, List.append_nil])
      rw [← hres, this]
      rfl
    have e3 := d3.cell
    gi_wp2
    rw [Exit.noGoto_ret]
    refine ⟨by simp, .inl ⟨_, _, rfl, run_takeDeferred hD, ?_⟩⟩
    refine ⟨_, results_tmp rfl _ _ _, ?_, d4.trans ((Outside.putObj (B := 0) _ (Nat.le_refl _) hD rfl).below (by omega) d4.size)⟩
    rw [hr1.out]
    rfl
  case stop =>
    rintro B c pre X hB hpre ⟨rfl, d1, d2⟩ hD
    have e3 := d1.cell
    gi_wp2
    rw [Exit.noGoto_ret]
    refine ⟨by simp, .inl ⟨_, _, rfl, run_takeDeferred hD, ?_⟩⟩
    exact ⟨_, results_tmp rfl _ _ _, rfl, d2.trans ((Outside.putObj (B := 0) _ (Nat.le_refl _) hD rfl).below (by omega) d2.size)⟩
end Go.Proofs.YthlghokgknkpaaaDoor

/-
  A region that draws its order, whose operations only read but for one that waits for all others (a store, a call): one walk, in the order of the text, and that one last. No program is named here.
-/
namespace Go.Proofs.YthlghokgknkpaaaDoor
open Go.RowKit

variable {P : Program} {ops : Array Oper} {md : Region.Mode} {C : World → Prop} {F : Fence} {n : Nat}

/-- What has come up has come up behind what it waits for. -/
def Closed (md : Region.Mode) (ops : Array Oper) (listed : Array Bool) : Prop := ∀ j o, ops[j]? = some o → listed.getD j false = true → ∀ e ∈ o.after, Region.binds md e = true → listed.getD e.on false = true

theorem Closed.set {listed : Array Bool} (h : Closed md ops listed) {j : Nat} (hj : j ∈ Region.ready md ops listed) : Closed md ops (listed.setIfInBounds j true) := by
  intro i o ho hi e he hb
  obtain ⟨_, o', ho', hall⟩ := mem_ready.1 hj
  by_cases hij : i = j
  · subst hij
    rw [ho] at ho'
    cases ho'
    exact getD_set_true (hall e he hb)
  · rw [getD_set_ne false (Ne.symm hij)] at hi
    exact getD_set_true (h i o ho hi e he hb)

/-- Each operation ahead of k is waited for by a later one, k at most. -/
def waitedB (md : Region.Mode) (ops : Array Oper) (k : Nat) : Bool :=
  (List.range k).all fun i => (List.range (k + 1)).any fun j => decide (i < j) && ((ops[j]?).map fun o => o.after.any fun e => Region.binds md e && e.on == i).getD false

theorem waited_spec {k : Nat} (h : waitedB md ops k = true) (i : Nat) (hi : i < k) : ∃ j o e, i < j ∧ j ≤ k ∧ ops[j]? = some o ∧ e ∈ o.after ∧ Region.binds md e = true ∧ e.on = i := by
  unfold waitedB at h
  have h1 := List.all_eq_true.1 h i (List.mem_range.2 hi)
  obtain ⟨j, hj, h2⟩ := List.any_eq_true.1 h1
  rw [Bool.and_eq_true] at h2
  obtain ⟨h3, h4⟩ := h2
  cases ho : ops[j]? with
  | none => rw [ho] at h4; cases h4
  | some o =>
    rw [ho] at h4
    simp only [Option.map_some, Option.getD_some, Array.any_eq_true', Bool.and_eq_true, beq_iff_eq] at h4
    obtain ⟨e, he, hb, hon⟩ := h4
    exact ⟨j, o, e, of_decide_eq_true h3, Nat.lt_succ_iff.1 (List.mem_range.1 hj), ho, he, hb, hon⟩

theorem all_listed {k : Nat} {listed : Array Bool} (h : waitedB md ops k = true) (hc : Closed md ops listed) (hk : k ∈ Region.ready md ops listed) : ∀ i, i < k → listed.getD i false = true := by
  have H : ∀ d i, k - i ≤ d → i < k → listed.getD i false = true := by
    intro d
    induction d with
    | zero => intro i h1 h2; omega
    | succ d ih =>
      intro i h1 h2
      obtain ⟨j, o, e, hij, hjk, ho, he, hb, hon⟩ := waited_spec h i h2
      by_cases e1 : j = k
      · subst e1
        obtain ⟨_, o', ho', hall⟩ := mem_ready.1 hk
        rw [ho] at ho'
        cases ho'
        have := hall e he hb
        rwa [hon] at this
      · have := hc j o ho (ih j (by omega) (by omega)) e he hb
        rwa [hon] at this
  exact fun i hi => H (k - i) i (Nat.le_refl _) hi

def wpAnyE (P : Program) (md : Region.Mode) (ops : Array Oper) (C : World → Prop) (k : Nat) (R : Act → Prop) : Nat → Array Bool → Act → Prop
  | 0, _, _ => False
  | fuel + 1, listed, a => Region.ready md ops listed ≠ [] ∧ ∀ i ∈ Region.ready md ops listed, if i = k then fuel = 0 ∧ R a else qOp P ops C i (wpAnyE P md ops C k R fuel (listed.setIfInBounds i true)) a

theorem wpAnyE_first {k : Nat} {R : Act → Prop} {i : Nat} {oi : Oper} {v : Value} (hi : ops[i]? = some oi) (hik : i < k) (hw : waitedB md ops k = true) (hsel : ∀ (j : Nat) (o : Oper) cs b, ops[j]? = some o → o.op ≠ .select cs b) :
    ∀ (fuel : Nat) (listed : Array Bool) (a : Act), Closed md ops listed →
      (∀ j oj, ops[j]? = some oj → j ≠ i → listed.getD j true = false → (∀ e ∈ oj.after, Region.binds md e = true → e.on ≠ i) → oi.apart ops oj = true) →
      i ∈ Region.ready md ops listed → YieldsIn P ops C oi v a →
      wpAnyE P md ops C k R fuel (listed.setIfInBounds i true) (a.put oi.dst v) → wpAnyE P md ops C k R (fuel + 1) listed a := by
  intro fuel
  induction fuel with
  | zero => intro listed a _ _ _ _ H; exact H.elim
  | succ fuel ih =>
    intro listed a hcl hfree hr hy H
    have h0 := (mem_ready.1 hr).1
    refine ⟨fun h => (by rw [h] at hr; cases hr), fun j hj => ?_⟩
    by_cases hji : j = i
    · subst hji
      rw [if_neg (by omega)]
      exact hy.qOp hi H
    · by_cases hjk : j = k
      · subst hjk
        have h1 := all_listed hw hcl hj i hik
        rcases Nat.lt_or_ge i listed.size with h' | h'
        · simp [h'] at h0 h1; rw [h0] at h1; cases h1
        · simp [Array.getElem?_eq_none h'] at h1
      · rw [if_neg hjk]
        have h1 := H.2 j (ready_mono hj hji)
        rw [if_neg hjk] at h1
        obtain ⟨hjun, oj, hoj, hall⟩ := mem_ready.1 hj
        have hnot : ∀ e ∈ oj.after, Region.binds md e = true → e.on ≠ i := fun e he hb heq => by
          have h1 := hall e he hb
          rw [heq] at h1
          rcases Nat.lt_or_ge i listed.size with h' | h'
          · simp [h'] at h0 h1; rw [h0] at h1; cases h1
          · simp [Array.getElem?_eq_none h'] at h1
        have h2 := qOp_put hoj (hfree j oj hoj hji hjun hnot) (fun cs b => hsel i oi cs b hi) (fun cs b => hsel j oj cs b hoj) hy h1
        have hfree' : ∀ k ok, ops[k]? = some ok → k ≠ i → (listed.setIfInBounds j true).getD k true = false →
            (∀ e ∈ ok.after, Region.binds md e = true → e.on ≠ i) → oi.apart ops ok = true := fun k ok hk hki hun hno => by
          refine hfree k ok hk hki ?_ hno
          by_cases hjk : j = k
          · subst hjk; exact hjun
          · rw [getD_set_ne true hjk] at hun; exact hun
        refine qOp_mono (fun a' h3 => ih (listed.setIfInBounds j true) a' (hcl.set hj) hfree' (ready_mono hr (Ne.symm hji)) h3.1 ?_) h2
        rw [Array.setIfInBounds_comm _ _ hji]
        exact h3.2

def lexTo (md : Region.Mode) (ops : Array Oper) : Nat → Nat → Array Bool → Bool
  | 0, k, listed => Region.ready md ops listed == [k]
  | fuel + 1, k, listed => (Region.ready md ops listed).contains k && Region.free md ops listed k && lexTo md ops fuel (k + 1) (listed.setIfInBounds k true)

theorem wpAnyE_lex {R : Act → Prop} {k : Nat} (hs : Region.noSelect ops = true) (hw : waitedB md ops k = true) : ∀ (l : List Oper) (p : Nat) (listed : Array Bool) (a : Act), Closed md ops listed → p + l.length = k → (∀ j, j < l.length → l[j]? = ops[p + j]?) →
    lexTo md ops l.length p listed = true → wpQuiet P ops C R l a → wpAnyE P md ops C k R (l.length + 1) listed a
  | [], p, listed, a, _, hp, _, hB, h => by
    have hB' : Region.ready md ops listed = [p] := by simpa [lexTo] using hB
    have hp' : p = k := by simpa using hp
    refine ⟨by rw [hB']; simp, fun i hi => ?_⟩
    rw [hB'] at hi
    have hi' := List.mem_singleton.1 hi
    rw [if_pos (by omega)]
    exact ⟨rfl, h⟩
  | o :: l, p, listed, a, hcl, hp, hl, hB, h => by
    have h0 : ops[p]? = some o := by simpa using (hl 0 (by simp)).symm
    simp only [List.length_cons, lexTo, Bool.and_eq_true] at hB
    obtain ⟨⟨hr, hf⟩, hB'⟩ := hB
    have hst : qOp P ops C p (wpQuiet P ops C R l) a := by unfold qOp; simp only [h0]; exact h
    obtain ⟨v, hy, hK⟩ := yieldsIn_of_qOp h0 hst
    have hr' : p ∈ Region.ready md ops listed := by simpa using hr
    exact wpAnyE_first h0 (by simp at hp; omega) hw (Region.noSelect_spec hs) (l.length + 1) listed a hcl (Region.free_spec h0 hf) hr' hy
      (wpAnyE_lex hs hw l (p + 1) _ _ (hcl.set hr') (by simp at hp; omega) (fun j hj => by have := hl (j + 1) (by simpa using hj); simpa [Nat.add_assoc, Nat.add_comm 1 j] using this) hB' hK)

theorem wpIn_of_quietF (hF : ∀ f, F.fn f) (hdep : F.depth = none) (hcalls : ∀ m f args w R, Calls P f args w R → CallsIn F m P f args w R) {o : Oper} (hd : ∀ c, o.op ≠ .defer c) {a : Act} {K : Act → Prop} {K' : Act → World → Prop} {Q' : Exit → Act → World → Prop} {w : World} (hw : C w) (h : ∀ a w', C w' → K a → K' a w')
    (hh : o.quiet P a C K) : o.wpIn F n P a w K' Q' := by
  obtain ⟨v, h1, h2⟩ := hh
  have h3 := h1 w hw
  unfold Oper.quietAt at h3
  unfold Oper.wpIn
  refine ⟨fun f _ => hF f, ?_⟩
  rw [Oper.semAt_eq _ _ _ hd]
  generalize (execOp a.eval o).run P w = r at *
  cases r with
  | ok n w' =>
    cases n <;> simp only [Oper.quietUpon] at h3 <;> simp only [Oper.uponIn]
    case value u =>
      obtain ⟨e1, e2⟩ := h3
      rw [e1, e2]
      exact h _ _ hw h2
    case skip =>
      obtain ⟨e1, e2⟩ := h3
      rw [e1, ← e2]
      exact h _ _ hw h2
    case enter f args =>
      obtain ⟨e1, hc⟩ := h3
      rw [e1]
      refine ⟨(fun h => by rw [hdep] at h; cases h), hcalls _ _ _ _ _ (hc.mono fun e w'' ⟨he, hw''⟩ => ?_)⟩
      subst he
      exact h _ _ hw'' h2
  | halt x w' => simp only [Oper.quietUpon] at h3

theorem wpAnyIn_of_E (hF : ∀ f, F.fn f) (hdep : F.depth = none) (hcalls : ∀ m f args w R, Calls P f args w R → CallsIn F m P f args w R) {L : List Oper} (hd : noDefer L = true) {k : Nat} (hk : L.length = k + 1) (hw : waitedB md L.toArray k = true) {R : Act → Prop} {Q' : Exit → Act → World → Prop}
    (hR : ∀ a w, C w → R a → wpOpIn F n P L.toArray Q' k (fun a' w' => Q' .normal a' w') a w) :
    ∀ (fuel : Nat) (listed : Array Bool) (a : Act) (w : World), Closed md L.toArray listed → C w → wpAnyE P md L.toArray C k R fuel listed a → wpAnyIn F n P md L.toArray Q' fuel listed a w
  | 0, _, _, _, _, _, h => h.elim
  | fuel + 1, listed, a, w, hcl, hCw, h => ⟨fun h0 => absurd h0 h.1, fun i hi => by
      have hh := h.2 i hi
      by_cases hik : i = k
      · subst hik
        rw [if_pos rfl] at hh
        obtain ⟨rfl, hRa⟩ := hh
        refine wpOpIn_mono (fun a' w' hq => ⟨?_, hq⟩) (hR a w hCw hRa)
        have hall := all_listed hw hcl hi
        refine List.eq_nil_iff_forall_not_mem.2 fun j hj => ?_
        obtain ⟨h1, o, ho, _⟩ := mem_ready.1 hj
        have hjs : j < L.length := by
          have := (Array.getElem?_eq_some_iff.1 ho).1
          simpa using this
        by_cases hji : j = i
        · subst hji
          have hii := (mem_ready.1 hi).1
          rcases Nat.lt_or_ge j listed.size with h' | h'
          · simp [h'] at h1
          · simp [Array.getElem?_eq_none h'] at hii
        · have h2 := hall j (by omega)
          rw [getD_set_ne true (Ne.symm hji)] at h1
          rcases Nat.lt_or_ge j listed.size with h' | h'
          · simp [h'] at h1 h2; rw [h1] at h2; cases h2
          · simp [Array.getElem?_eq_none h'] at h1
      · rw [if_neg hik] at hh
        unfold qOp at hh
        unfold wpOpIn
        split
        · rename_i ho
          simp only [ho] at hh
          exact wpAnyIn_of_E hF hdep hcalls hd hk hw hR fuel _ _ _ (hcl.set hi) hCw hh
        · rename_i o ho
          simp only [ho] at hh
          have hm : o ∈ L := by
            have := Array.mem_of_getElem? ho
            simpa using this
          split
          · rename_i hw'
            simp only [hw', if_true] at hh
            exact wpIn_of_quietF hF hdep hcalls (noDefer_at hd hm) hCw (fun a' w' hw'' => wpAnyIn_of_E hF hdep hcalls hd hk hw hR fuel _ a' w' (hcl.set hi) hw'') hh
          · rename_i hw'
            simp only [hw'] at hh
            exact ⟨fun f _ => hF f, wpAnyIn_of_E hF hdep hcalls hd hk hw hR fuel _ _ _ (hcl.set hi) hCw hh⟩⟩

/-- What is asked of such a region, by its text. -/
def lastB (L : List Oper) : Bool := !L.isEmpty && noDefer L && Region.noSelect L.toArray && waitedB .any L.toArray (L.length - 1) && lexTo .any L.toArray (L.length - 1) 0 (Array.replicate L.length false)

theorem closed_none (m : Nat) : Closed md ops (Array.replicate m false) := by
  intro j o _ h
  rcases Nat.lt_or_ge j m with h' | h'
  · simp [h'] at h
  · simp [Array.getElem?_eq_none (by simpa using h' : (Array.replicate m false).size ≤ j)] at h

theorem wpIn_last (hF : ∀ f, F.fn f) (hdep : F.depth = none) (hcalls : ∀ m f args w R, Calls P f args w R → CallsIn F m P f args w R) {id : Nat} {Q : Exit → Act → World → Prop} {a : Act} {w : World} {L : List Oper} {o : Oper} (T : List Oper) (hT : T = L ++ [o]) (hB : lastB T = true) (hm : P.follows .mixedOrders = true)
    (h : wpQuiet P T.toArray (fun w' => ∃ n, w' = w.drewN n) (fun a' => ∀ w', (∃ n, w' = w.drewN n) → wpListIn F n P T.toArray Q [o] a' w') L a) : (Code.region id T.toArray true).wpIn F n P Q a w := by
  subst hT
  unfold lastB at hB
  simp only [Bool.and_eq_true, List.length_append, List.length_singleton, Nat.add_sub_cancel] at hB
  obtain ⟨⟨⟨⟨_, h1⟩, h2⟩, h3⟩, h4⟩ := hB
  have hlast : (L ++ [o]).toArray[L.length]? = some o := by simp
  refine wpIn_region_any hm (wpAnyIn_of_E (C := fun w' => ∃ n, w' = w.drewN n) (R := fun a' => ∀ w', (∃ n, w' = w.drewN n) → wpListIn F n P (L ++ [o]).toArray Q [o] a' w') hF hdep hcalls h1 (k := L.length) (by simp) h3 (fun a' w' hw' hr => ?_) _ _ _ _ (closed_none _) ⟨1, rfl⟩ ?_)
  · have := hr w' hw'
    unfold wpOpIn
    rw [hlast]
    exact this
  · have := wpAnyE_lex (P := P) (md := .any) (C := fun w' => ∃ n, w' = w.drewN n) h2 h3 L 0 (Array.replicate (L.length + 1) false) a (closed_none _) (by simp) (fun j hj => by simp [List.getElem?_append_left hj]) h4 h
    simpa using this

def initL : List Oper → List Oper
  | [] => []
  | [_] => []
  | x :: y :: r => x :: initL (y :: r)
def lastL : List Oper → List Oper
  | [] => []
  | [x] => [x]
  | _ :: y :: r => lastL (y :: r)
theorem init_last : ∀ T : List Oper, T ≠ [] → ∃ o, lastL T = [o] ∧ T = initL T ++ [o]
  | [], h => absurd rfl h
  | [x], _ => ⟨x, rfl, rfl⟩
  | x :: y :: r, _ => by
    obtain ⟨o, h1, h2⟩ := init_last (y :: r) (by simp)
    refine ⟨o, h1, ?_⟩
    show x :: y :: r = x :: (initL (y :: r) ++ [o])
    rw [← h2]

/-- In a round. -/
theorem wpIn_round_last {l id : Nat} {Q : Exit → Act → World → Prop} {a : Act} {w : World} {T : List Oper} (hB : lastB T = true) (hm : P.follows .mixedOrders = true)
    (h : wpQuiet P T.toArray (fun w' => ∃ n, w' = w.drewN n) (fun a' => ∀ w', (∃ n, w' = w.drewN n) → wpListIn (Fence.wide.inRound l) n P T.toArray Q (lastL T) a' w') (initL T) a) : (Code.region id T.toArray true).wpIn (Fence.wide.inRound l) n P Q a w := by
  have hne : T ≠ [] := fun e => by subst e; simp [lastB] at hB
  obtain ⟨o, h1, h2⟩ := init_last T hne
  rw [h1] at h
  exact wpIn_last (fun _ => trivial) rfl (fun _ _ _ _ _ h => CallsIn.inRound l (callsIn_wide.2 h)) T h2 hB hm h
/-- At the wide fence. -/
theorem wpIn_wide_last {id : Nat} {Q : Exit → Act → World → Prop} {a : Act} {w : World} {T : List Oper} (hB : lastB T = true) (hm : P.follows .mixedOrders = true)
    (h : wpQuiet P T.toArray (fun w' => ∃ n, w' = w.drewN n) (fun a' => ∀ w', (∃ n, w' = w.drewN n) → wpListIn Fence.wide n P T.toArray Q (lastL T) a' w') (initL T) a) : (Code.region id T.toArray true).wpIn Fence.wide n P Q a w := by
  have hne : T ≠ [] := fun e => by subst e; simp [lastB] at hB
  obtain ⟨o, h1, h2⟩ := init_last T hne
  rw [h1] at h
  exact wpIn_last (fun _ => trivial) rfl (fun _ _ _ _ _ h => callsIn_wide.2 h) T h2 hB hm h
/-- In a plain walk. -/
theorem wp_last {id : Nat} {Q : Exit → Act → World → Prop} {a : Act} {w : World} {T : List Oper} (hB : lastB T = true) (hm : P.follows .mixedOrders = true)
    (h : wpQuiet P T.toArray (fun w' => ∃ n, w' = w.drewN n) (fun a' => ∀ w', (∃ n, w' = w.drewN n) → wpListIn Fence.wide 0 P T.toArray Q (lastL T) a' w') (initL T) a) : (Code.region id T.toArray true).wp P Q a w := by
  have hne : T ≠ [] := fun e => by subst e; simp [lastB] at hB
  obtain ⟨o, h1, h2⟩ := init_last T hne
  rw [h1] at h
  exact (wpIn_wide (n := 0)).1 (wpIn_last (fun _ => trivial) rfl (fun _ _ _ _ _ h => callsIn_wide.2 h) T h2 hB hm h)
end Go.Proofs.YthlghokgknkpaaaDoor
