import Derived.Test.YthlghokgknkpaaaGreatDoorSwCsTo
import Derived.Test.YthlghokgknkpaaaGreatDoorWkHTo
/-
  A range over a function whose iterator leans on blocks of a set S (they need not lie side by side). No program is named here.
-/
namespace Go.Proofs.YthlghokgknkpaaaGreatDoor
open Go.RowKit Go.Shelf

/-- The blocks of S lie as they lay. -/
structure KeepS (S : Nat → Prop) (X Y : World) : Prop where
  size : X.heap.size ≤ Y.heap.size
  same : ∀ k, S k → Y.heap[k]? = X.heap[k]?
theorem KeepS.refl (S : Nat → Prop) (X : World) : KeepS S X X := ⟨Nat.le_refl _, fun _ _ => rfl⟩
theorem KeepS.trans {S : Nat → Prop} {X Y Z : World} (h : KeepS S X Y) (k : KeepS S Y Z) : KeepS S X Z := ⟨Nat.le_trans h.size k.size, fun i h1 => (k.same i h1).trans (h.same i h1)⟩
theorem KeepS.of_below {S : Nat → Prop} {C : Nat} {X Y : World} (h : Below C X Y) (hB : ∀ k, S k → k < C) : KeepS S X Y := ⟨h.size, fun i h1 => h.block i (hB i h1)⟩
theorem KeepS.grown {S : Nat → Prop} {X Y : World} {row : Option Nat} (hg : X.grownBy Y row) (hB : ∀ k, S k → k < X.heap.size) (hr : ∀ k, row = some k → ¬ S k) : KeepS S X Y :=
  ⟨hg.size, fun i h1 => hg.block i (hB i h1) (fun e => hr i e.symm h1)⟩
theorem KeepS.setCell {S : Nat → Prop} {X Y : World} (h : KeepS S X Y) {p : Addr} (hp : ¬ S p.block) (u : Value) : KeepS S X (Y.setCell p u) :=
  h.trans ⟨(KeepsWalks.setCell Y p u).size, fun _ hi => Below.heap_setCell _ _ _ _ (fun e => hp (e ▸ hi))⟩
theorem KeepS.alloc {S : Nat → Prop} {X Y : World} (h : KeepS S X Y) (hB : ∀ k, S k → k < Y.heap.size) (o : Obj) : KeepS S X (Y.alloc o) :=
  h.trans ⟨by simp, fun i hi => Below.heap_alloc _ _ i (hB i hi)⟩
theorem KeepS.drew {S : Nat → Prop} {X Y : World} (h : KeepS S X Y) : KeepS S X Y.drew := ⟨h.size, h.same⟩
theorem KeepS.putObj {S : Nat → Prop} {X Y : World} (h : KeepS S X Y) {r : Nat} (hr : ¬ S r) (o : Obj) : KeepS S X (Y.putObj r o) :=
  h.trans ⟨by simp, fun _ hi => World.putObj_heap_other (fun e => hr (e ▸ hi))⟩
theorem KeepS.box {S : Nat → Prop} {k : Nat} {X Y : World} (h : KeepS S X Y) {t : TypeId} {v : Value} (hb : Boxed X k t v) (hk : S k) : Boxed Y k t v := (h.same k hk).trans hb

/-- How a round's body may be left. -/
def sPost {α : Type} (S : Nat → Prop) (A B : Nat) (I : List α → World → Prop) (Ix : Code → List α → World → Prop) (xs : List α) (X : World) : Exit → Act → World → Prop
  | .normal, _, Y => KeepS S X Y ∧ Keeps A B X Y ∧ I xs Y
  | .ret, _, Y => KeepS S X Y ∧ Keeps A B X Y ∧ Ix .ret xs Y
  | .exit id, _, Y => KeepS S X Y ∧ Keeps A B X Y ∧ Ix (.exit id) xs Y
  | .goto t, _, Y => KeepS S X Y ∧ Keeps A B X Y ∧ Ix (.goto t) xs Y
  | .panic _, _, _ => False
  | .outgrown, _, _ => False

/-- The value of an iterator, perhaps with a receiver bound to it (fb), made ahead of w, whose boxes are the blocks of S: called in a later world in which they lie as they lay, at whatever loop's yield, it tells all of xs in its order, or stops where a round says so. J and Jx are the caller's; the iterator keeps what lay ahead of its call, and cells beyond its window. -/
def SeqS {α : Type} (P : Program) (g : Nat) (fb lb : Array Value) (encs : α → Array Value) (S : Nat → Prop) (xs : List α) (w : World) : Prop :=
  ∀ (l : Nat) (J Jx : Nat → List α → World → Prop) (W : World), KeepS S w W →
    (∀ B pre X Y, W.heap.size ≤ B → J B pre X → Outside W.heap.size B X Y → J B pre Y) →
    (∀ B pre X Y, W.heap.size ≤ B → Jx B pre X → Outside W.heap.size B X Y → Jx B pre Y) →
    (∀ B pre x X, W.heap.size ≤ B → B ≤ X.heap.size → pre ++ [x] <+: xs → J B pre X → YieldAt Fence.wide 0 P l (encs x) X fun e Y =>
      ∃ b : Bool, e = .returned (.bool b) ∧ KeepS S X Y ∧ Keeps W.heap.size B X Y ∧ (if b then J B (pre ++ [x]) Y else Jx B (pre ++ [x]) Y)) →
    (∀ X, Below W.heap.size W X → J X.heap.size [] X) →
    Calls P g (fb ++ #[.func (.yield l) #[] #[]] ++ lb) W fun e Y => (∃ v, e = .returned v) ∧ ∃ B, W.heap.size ≤ B ∧ (J B xs Y ∨ ∃ pre, pre <+: xs ∧ Jx B pre Y)

theorem range_seqS {α : Type} {n m : Nat} {P : Program} {g : Operand} {ps : Array Tmp} {assign body : Code} {Q : Exit → Act → World → Prop} {a : Act} {w : World}
    {gf : Nat} {fb lb : Array Value} (hg : a.eval g = .func (.func gf) fb lb) (eg : ∀ args w, (callFunc gf args).run P w = .ok (.enter gf args) w)
    {encs : α → Array Value} {S : Nat → Prop} {xs : List α} (hseq : SeqS P gf fb lb encs S xs w) (hhi : ∀ k, S k → k < w.heap.size) (hps : ∀ x, (encs x).size = ps.size)
    (I : Nat → List α → World → Prop) (Ix : Nat → Code → List α → World → Prop)
    (hI : ∀ B pre X Y, w.heap.size + 2 ≤ B → I B pre X → Outside w.heap.size B X Y → I B pre Y)
    (hIx : ∀ B c pre X Y, w.heap.size + 2 ≤ B → Ix B c pre X → Outside w.heap.size B X Y → Ix B c pre Y)
    (h0 : ∀ X, Below w.heap.size w X → w.heap.size + 2 ≤ X.heap.size → I X.heap.size [] X)
    (hab : ∃ a₁ : α → Act, (∀ (l : Nat) (x : α) (W : World) (K : Act → World → Prop), K (a₁ x) W →
      assign.wpIn (Fence.wide.inRound l) m P (Exit.then K (fun _ _ _ => False)) { tmps := (ps.zip (encs x)).foldl (fun t (p, v) => t.setIfInBounds p v) a.tmps, defers := [] } W) ∧
      (∀ (l B : Nat) (pre : List α) (x : α) (W : World), w.heap.size + 2 ≤ B → B ≤ W.heap.size → pre ++ [x] <+: xs → I B pre W →
      body.wpIn (Fence.wide.inRound l) m P (sPost S w.heap.size B (I B) (Ix B) (pre ++ [x]) W) (a₁ x) W))
    (hdone : ∀ (B : Nat) (W : World), w.heap.size + 2 ≤ B → I B xs W → W.heap[w.heap.size]? = some (.deferred (some [])) → Q .normal { a with defers := { target := .collected w.heap.size, args := #[] } :: a.defers } W)
    (hstop : ∀ (B : Nat) (c : Code) (pre : List α) (W : World), w.heap.size + 2 ≤ B → pre <+: xs → Ix B c pre W → W.heap[w.heap.size]? = some (.deferred (some [])) →
      c.wpIn Fence.wide n P Q { a with defers := { target := .collected w.heap.size, args := #[] } :: a.defers } W) :
    (Code.rangeFunc g ps assign body).wpIn Fence.wide n P Q a w := by
  obtain ⟨a₁, hassign, hbody⟩ := hab
  refine wpIn_rangeFunc fun fn _ => ?_
  let rec' : LoopState → Option Code → Loop := fun st pe => { state := st, pending := pe, fn := fn, tmps := a.tmps, params := ps, assign := assign, body := body, defers := w.heap.size }
  obtain ⟨W0, hW0⟩ : ∃ W0, (w.alloc (.deferred (some []))).alloc (.loop (rec' .ready none)) = W0 := ⟨_, rfl⟩
  have hz : W0.heap.size = w.heap.size + 2 := by rw [← hW0]; simp
  have hB0 : Below w.heap.size w W0 := by rw [← hW0]; exact ((Below.refl _ w).alloc (Nat.le_refl _) _).alloc (by simp) _
  have hl0 : W0.heap[w.heap.size + 1]? = some (.loop (rec' .ready none)) := by
    have := World.alloc_heap_new (w.alloc (.deferred (some []))) (.loop (rec' .ready none))
    rw [World.size_alloc] at this
    rw [← hW0]; exact this
  have hd0 : W0.heap[w.heap.size]? = some (.deferred (some [])) := by
    rw [← hW0]; exact (Below.heap_alloc _ _ _ (by simp)).trans (World.alloc_heap_new w _)
  refine ⟨w.heap.size + 1, [{ target := .collected w.heap.size, args := #[] }], W0, { target := .fn (.func gf) lb, args := fb ++ #[.func (.yield (w.heap.size + 1)) #[] #[]] }, W0, gf,
    fb ++ #[.func (.yield (w.heap.size + 1)) #[] #[]] ++ lb, W0, ?_, ?_, fun _ _ => trivial, ?_, (fun h => by cases h), ?_⟩
  · rw [← hW0]; exact run_enterLoop_outer _ _ _ _ _
  · simp only [resolve, hg]; simp [go_sem]
  · simp [invoke, go_sem, eg]
  refine callsIn_wide.2 ?_
  refine (hseq (w.heap.size + 1)
    (fun B pre X => I B pre X ∧ X.heap[w.heap.size + 1]? = some (.loop (rec' .ready none)) ∧ X.heap[w.heap.size]? = some (.deferred (some [])))
    (fun B pre X => ∃ c, Ix B c pre X ∧ X.heap[w.heap.size + 1]? = some (.loop (rec' .done (some c))) ∧ X.heap[w.heap.size]? = some (.deferred (some [])))
    W0 (KeepS.of_below hB0 hhi) ?_ ?_ ?_ ?_).mono ?_
  · rintro B pre X Y hB ⟨h1, h2, h3⟩ ho
    exact ⟨hI B pre X Y (by omega) h1 (ho.mono (by omega)), ho.block _ _ h2 (.inl (by omega)), ho.block _ _ h3 (.inl (by omega))⟩
  · rintro B pre X Y hB ⟨c, h1, h2, h3⟩ ho
    exact ⟨c, hIx B c pre X Y (by omega) h1 (ho.mono (by omega)), ho.block _ _ h2 (.inl (by omega)), ho.block _ _ h3 (.inl (by omega))⟩
  · rintro B pre x X hB hBX hpre ⟨hi1, hl, hd⟩
    have hy := run_yield (P := P) (args := encs x) hl (hps x)
    refine YieldAt.wide (m := m) ⟨fn, _, assign, body, hy, roundIn_of_wpIn (wide_fn fn) (hassign _ x X _ ⟨_, run_beginRound hl rfl, ?_⟩)⟩
    clear hy
    have hlt : w.heap.size + 1 < X.heap.size := (Array.getElem?_eq_some_iff.1 hl).1
    obtain ⟨X1, hX1⟩ : ∃ X1, X.putObj (w.heap.size + 1) (.loop { rec' .ready none with state := .busy }) = X1 := ⟨_, rfl⟩
    have ho1 : Outside w.heap.size B X X1 := by rw [← hX1]; exact Outside.putObj _ (by omega) hl rfl
    have hk1 : ∀ A' B', w.heap.size + 2 ≤ A' ∨ B' ≤ w.heap.size → Keeps A' B' X X1 := fun A' B' h => by rw [← hX1]; exact (Keeps.refl _ _ _).putObj (by omega) _
    have hk0 : KeepS S X X1 := by rw [← hX1]; exact (KeepS.refl _ _).putObj (fun h => by have := hhi _ h; omega) _
    have hl1 : X1.heap[w.heap.size + 1]? = some (.loop { rec' .ready none with state := .busy }) := by rw [← hX1]; exact World.putObj_heap_same hlt
    have hd1 : X1.heap[w.heap.size]? = some (.deferred (some [])) := by rw [← hX1]; exact (World.putObj_heap_other (by omega)).trans hd
    have hz1 : X1.heap.size = X.heap.size := by rw [← hX1]; simp
    rw [hX1]
    refine wpIn_mono (hbody _ B pre x X1 (by omega) (by omega) hpre (hI B pre X X1 (by omega) hi1 ho1)) ?_
    have fin : ∀ (jump : Option Code) (Z : World), KeepS S X1 Z → Keeps w.heap.size B X1 Z →
        ∃ Z', (Instr.endRound (w.heap.size + 1) jump).run P Z = .ok (.bool jump.isNone) Z' ∧ Z'.heap[w.heap.size + 1]? = some (.loop (rec' (if jump.isNone then .ready else .done) jump)) ∧
          Z'.heap[w.heap.size]? = some (.deferred (some [])) ∧ KeepS S X Z' ∧ Keeps W0.heap.size B X Z' ∧ Outside w.heap.size B Z Z' := fun jump Z k1 k2 => by
      have hl2 : Z.heap[w.heap.size + 1]? = some (.loop { rec' .ready none with state := .busy }) := (k2.same _ (by omega) (by omega)).trans hl1
      have hd2 : Z.heap[w.heap.size]? = some (.deferred (some [])) := (k2.same _ (by omega) (by omega)).trans hd1
      refine ⟨_, run_endRound jump hl2, World.putObj_heap_same (Array.getElem?_eq_some_iff.1 hl2).1, (World.putObj_heap_other (by omega)).trans hd2, ?_, ?_, Outside.putObj _ (by omega) hl2 rfl⟩
      · exact (hk0.trans k1).putObj (fun h => by have := hhi _ h; omega) _
      · exact ((hk1 _ _ (.inl (by omega))).trans (k2.mono (by omega) (Nat.le_refl _))).putObj (.inl (by omega)) _
    rintro e a3 Z hp
    cases e with
    | normal =>
      obtain ⟨k1, k2, k3⟩ := hp
      obtain ⟨Z', r1, r2, r3, r4, r5, r6⟩ := fin none Z k1 k2
      exact ⟨_, _, r1, true, rfl, r4, r5, hI B _ Z Z' (by omega) k3 r6, r2, r3⟩
    | ret =>
      obtain ⟨k1, k2, k3⟩ := hp
      obtain ⟨Z', r1, r2, r3, r4, r5, r6⟩ := fin (some .ret) Z k1 k2
      exact ⟨_, _, r1, false, rfl, r4, r5, .ret, hIx B _ _ Z Z' (by omega) k3 r6, r2, r3⟩
    | exit id =>
      obtain ⟨k1, k2, k3⟩ := hp
      obtain ⟨Z', r1, r2, r3, r4, r5, r6⟩ := fin (some (.exit id)) Z k1 k2
      exact ⟨_, _, r1, false, rfl, r4, r5, .exit id, hIx B _ _ Z Z' (by omega) k3 r6, r2, r3⟩
    | goto t =>
      obtain ⟨k1, k2, k3⟩ := hp
      obtain ⟨Z', r1, r2, r3, r4, r5, r6⟩ := fin (some (.goto t)) Z k1 k2
      exact ⟨_, _, r1, false, rfl, r4, r5, .goto t, hIx B _ _ Z Z' (by omega) k3 r6, r2, r3⟩
    | panic ch => exact hp.elim
    | outgrown => exact hp.elim
  · intro X hX
    exact ⟨h0 X (hB0.trans (hX.mono (by omega))) (by have := hX.size; omega), (hX.block _ (by omega)).trans hl0, (hX.block _ (by omega)).trans hd0⟩
  · rintro e Z ⟨⟨v, rfl⟩, B, hB, (⟨k1, k2, k3⟩ | ⟨pre, hpre, c, k1, k2, k3⟩)⟩
    · exact ⟨none, _, run_endLoop k2 (by intro h; cases h), hdone B _ (by omega) (hI B _ _ _ (by omega) k1 (Outside.putObj _ (by omega) k2 rfl)) ((World.putObj_heap_other (by omega)).trans k3)⟩
    · exact ⟨some c, _, run_endLoop k2 (by intro h; cases h), hstop B c pre _ (by omega) hpre (hIx B _ _ _ _ (by omega) k1 (Outside.putObj _ (by omega) k2 rfl)) ((World.putObj_heap_other (by omega)).trans k3)⟩
end Go.Proofs.YthlghokgknkpaaaGreatDoor

/-
  Contracts: the calls of a Map[string] that no call made.
-/
namespace Go.Proofs.YthlghokgknkpaaaGreatDoor
open Go.RowKit Go.Shelf

/-- A map that no call made, in whatever memory behind w. -/
def NoMap_s (w : World) (p : Value) : Prop := ∀ X, Below w.heap.size w X → Calls Tryz.prog 34 #[p] X fun e w' => e = .returned (.bool false) ∧ w' = X

theorem noMap_nil_s (w : World) : NoMap_s w (.pointer none) := fun X _ => made_nil_s X
theorem noMap_zero_s (w : World) (b : Nat) (hb : b < w.heap.size) (h : w.cell? ⟨b, 2, none⟩ = some (.slice none 0 0)) : NoMap_s w (.pointer (some ⟨b, 0, none⟩)) := fun X hX =>
  made_any_s b 0 0 none X ((hX.cell (p := ⟨b, 2, none⟩) hb).trans h)
theorem NoMap_s.below {w w' : World} {p : Value} (h : NoMap_s w p) (hb : Below w.heap.size w w') : NoMap_s w' p := fun X hX => h X (hb.trans (hX.mono hb.size))

set_option maxHeartbeats 1000000 in
theorem find_none_s (a : Option Addr) (key : ByteArray) (w : World) (h : NoMap_s w (.pointer a)) : Calls Tryz.prog 35 #[.pointer a, .string key] w fun e w' => e = .returned (.int .i64 (-1)) ∧ Below w.heap.size w w' := by
  refine (callsIn_wide (n := 9)).1 ?_
  refine callsIn_of_wp_marks Tryz.func35 rfl trivial ?_ rfl
  simp only [Tryz.ntmps35, List.size_toArray, List.length_cons, List.length_nil, Nat.reduceAdd, Nat.reduceSub, Array.replicate_succ, Array.replicate_zero, List.push_toArray, List.append_toArray, List.nil_append, List.cons_append]
  have q0 := Boxed.new w 28 (.pointer a)
  replace q0 := q0.alloc (.cells #[.string key] 9)
  have hBq : Below w.heap.size w ((w.alloc (.cells #[.pointer a] 28)).alloc (.cells #[.string key] 9)) := ((Below.refl _ w).alloc (Nat.le_refl _) _).alloc (by simp) _
  have hmade := h _ hBq
  generalize hX0 : (w.alloc (.cells #[.pointer a] 28)).alloc (.cells #[.string key] 9) = X0 at q0 hBq hmade
  have e0 := q0.cell
  gi_wp2
  refine scope_wide ?_
  gi_wp2_with (refine ⟨trivial, ?_⟩; gi_at_call 34; refine (callsIn_wide.2 hmade).mono ?_; rintro e w' ⟨rfl, rfl⟩)
  rw [Exit.noGoto_ret]
  exact ⟨_, results_tmp rfl _ _ _, rfl, hBq⟩

theorem put_none_s (a : Option Addr) (key : ByteArray) (v : Value) (w : World) (h : NoMap_s w (.pointer a)) : Calls Tryz.prog 10 #[.pointer a, .string key, v] w fun e w' => e = .returned (.tuple #[.bool false, .int .i64 1]) ∧ w' = w := by
  have hmade := h w (Below.refl _ _)
  go_enter Tryz.func10, Tryz.ntmps10
  go_wp2_with (go_at_call 34; refine hmade.mono ?_; rintro e w ⟨rfl, rfl⟩)
  go_ret2
  exact ⟨rfl, rfl⟩

theorem get_none_s (a : Option Addr) (key : ByteArray) (w : World) (h : NoMap_s w (.pointer a)) : Calls Tryz.prog 111 #[.pointer a, .string key] w fun e w' => e = .returned (.tuple #[(.string ⟨#[]⟩), .bool false]) ∧ Below w.heap.size w w' := by
  have hf := find_none_s a key w h
  go_enter Tryz.func111, Tryz.ntmps111
  go_wp2_with fail
  refine hf.mono ?_
  rintro e w1 ⟨rfl, hb⟩
  go_wp2
  go_ret2
  exact ⟨rfl, hb⟩

theorem delete_none_s (a : Option Addr) (key : ByteArray) (w : World) (h : NoMap_s w (.pointer a)) : Calls Tryz.prog 12 #[.pointer a, .string key] w fun e w' => e = .returned (.bool false) ∧ Below w.heap.size w w' := by
  have hf := find_none_s a key w h
  go_enter Tryz.func12, Tryz.ntmps12
  go_wp2_with fail
  refine hf.mono ?_
  rintro e w1 ⟨rfl, hb⟩
  go_wp2
  go_ret
  exact ⟨rfl, hb⟩

theorem len_none_s (a : Option Addr) (w : World) (h : NoMap_s w (.pointer a)) : Calls Tryz.prog 47 #[.pointer a] w fun e w' => e = .returned (.int .i64 0) ∧ w' = w := by
  have hmade := h w (Below.refl _ _)
  go_enter Tryz.func47, Tryz.ntmps47
  go_wp2_with (go_at_call 34; refine hmade.mono ?_; rintro e w ⟨rfl, rfl⟩)
  go_ret
  exact ⟨rfl, rfl⟩

theorem controls_none_s (a : Option Addr) (w : World) (h : NoMap_s w (.pointer a)) : Calls Tryz.prog 27 #[.pointer a] w fun e w' => e = .returned (.slice none 0 0) ∧ w' = w := by
  have hmade := h w (Below.refl _ _)
  go_enter Tryz.func27, Tryz.ntmps27
  go_wp2_with (go_at_call 34; refine hmade.mono ?_; rintro e w ⟨rfl, rfl⟩)
  go_ret
  exact ⟨rfl, rfl⟩

theorem copy_none_s (a : Option Addr) (w : World) (h : NoMap_s w (.pointer a)) : Calls Tryz.prog 33 #[.pointer a] w fun e w' => e = .returned (.pointer none) ∧ w' = w := by
  have hmade := h w (Below.refl _ _)
  go_enter Tryz.func33, Tryz.ntmps33
  go_wp2_with (go_at_call 34; refine hmade.mono ?_; rintro e w ⟨rfl, rfl⟩)
  go_ret
  exact ⟨rfl, rfl⟩

set_option maxHeartbeats 1000000 in
theorem keys_none_s (a : Option Addr) (w : World) (h : NoMap_s w (.pointer a)) : Calls Tryz.prog 109 #[.pointer a] w fun e w' => e = .returned (.slice none 0 0) ∧ Below w.heap.size w w' := by
  refine (callsIn_wide (n := 9)).1 ?_
  refine callsIn_of_wp_marks Tryz.func109 rfl trivial ?_ rfl
  simp only [Tryz.ntmps109, List.size_toArray, List.length_cons, List.length_nil, Nat.reduceAdd, Nat.reduceSub, Array.replicate_succ, Array.replicate_zero, List.push_toArray, List.append_toArray, List.nil_append, List.cons_append]
  have q0 := Boxed.new w 28 (.pointer a)
  have hBq : Below w.heap.size w (w.alloc (.cells #[.pointer a] 28)) := (Below.refl _ w).alloc (Nat.le_refl _) _
  have hmade := h _ hBq
  generalize hX0 : w.alloc (.cells #[.pointer a] 28) = X0 at q0 hBq hmade
  have e0 := q0.cell
  gi_wp2_with (refine ⟨trivial, ?_⟩; gi_at_call 34; refine (callsIn_wide.2 hmade).mono ?_; rintro e w' ⟨rfl, rfl⟩)
  exact ⟨_, results_tmp rfl _ _ _, rfl, hBq⟩
end Go.Proofs.YthlghokgknkpaaaGreatDoor

/-
  walk.All[string]'s function as an iterator that leans on the map's blocks and its own box alone; the same over no map.
-/
namespace Go.Proofs.YthlghokgknkpaaaGreatDoor
open Go.RowKit Go.Shelf

theorem Lies.keepS {S : Nat → Prop} {tM tS : TypeId} {X Y : World} {b bw bs : Nat} {M : SM} (h : Lies tM tS X b bw bs M) (hk : KeepS S X Y) (h1 : S b) (h2 : S bw) (h3 : S bs) : Lies tM tS Y b bw bs M := h.same (hk.same b h1) (hk.same bw h2) (hk.same bs h3)
theorem Tab.keepS {S : Nat → Prop} {X Y : World} (h : Tab X) (hk : KeepS S X Y) (h0 : S 0) : Tab Y := ⟨Nat.lt_of_lt_of_le h.1 hk.size, fun i hi => (World.cell?_of_block (a := ⟨0, i, none⟩) (hk.same 0 h0)).trans (h.2 i hi)⟩
theorem But.keepS {S : Nat → Prop} {L : List Nat} {X Y : World} (h : But L X Y) (hS : ∀ k, S k → k ∉ L ∧ k < X.heap.size) : KeepS S X Y := ⟨h.size, fun k hk => h.block k (hS k hk).2 (hS k hk).1⟩
/-- The blocks on which an iterator over a map leans. -/
def mapS (b bw bs Bm : Nat) (k : Nat) : Prop := k = 0 ∨ k = b ∨ k = bw ∨ k = bs ∨ k = Bm

set_option maxRecDepth 100000 in
set_option maxHeartbeats 4000000 in
theorem all1_seqS (b bw bs Bm : Nat) (M : SM) (w : World) (hT : Tab w) (h : Lies 74 71 w b bw bs M) (hI : M.Inv IsV_s) (hm : Boxed w Bm 28 (.pointer (some ⟨b, 0, none⟩))) :
    SeqS Tryz.prog 79 #[] #[.pointer (some ⟨Bm, 0, none⟩)] (fun x : ByteArray × ByteArray => #[.string x.1, .string x.2]) (mapS b bw bs Bm) M.pairs w := by
  intro l J Jx W hK hJ hJx hY h0
  have hN : mapS b bw bs Bm 0 ∧ mapS b bw bs Bm b ∧ mapS b bw bs Bm bw ∧ mapS b bw bs Bm bs ∧ mapS b bw bs Bm Bm := by simp [mapS]
  have hW := h.keepS hK hN.2.1 hN.2.2.1 hN.2.2.2.1
  have hTW := hT.keepS hK hN.1
  have hWz := hK.size
  have hSw : ∀ k, mapS b bw bs Bm k → k < W.heap.size := fun k hk => by
    have l1 := h.lt
    have l2 := hm.lt
    have l3 := hT.1
    unfold mapS at hk
    omega
  have hw0 := hSw 0 hN.1
  have c0 := (hK.box hm hN.2.2.2.2).cell
  have hks : ∀ k ∈ M.keys, k.size < 140737488355328 := fun k hk => keys_size hI hk
  refine (callsIn_wide (n := 3)).1 ?_
  refine callsIn_of_wp Tryz.func79 rfl trivial ?_ rfl
  simp only [Tryz.ntmps79, List.size_toArray, List.length_cons, List.length_nil, Nat.reduceAdd, Nat.reduceSub, Array.replicate_succ, Array.replicate_zero, List.push_toArray, List.append_toArray, List.nil_append, List.cons_append]
  gi_wp2_with (refine ⟨trivial, ?_⟩; gi_at_call 80; refine (callsIn_wide.2 (wnewG_any_s b bw bs M _ hTW hW hI)).mono ?_; rintro e X ⟨x, rfl, hx, hx1, hx2, hX⟩)
  have hXz := hX.size
  have hJ0 := h0 X hX
  have hkX : KeepS (mapS b bw bs Bm) W X := KeepS.of_below hX hSw
  gi_loopw [] (fun wr => ∃ j : Nat, j ≤ M.keys.length ∧ X.heap.size ≤ wr.heap.size ∧ KeepS (mapS b bw bs Bm) W wr ∧ WkG (fun g => W.heap.size ≤ g ∧ g < X.heap.size) 141 wr x (.pointer (some ⟨b, 0, none⟩)) (M.keys.drop j) ∧ J X.heap.size (M.pairs.take j) wr) (fun wr => aheadN x wr)
  case atStart => exact ⟨0, Nat.zero_le _, Nat.le_refl _, hkX, hx, hJ0⟩
  case round =>
    obtain ⟨j, hj, hz, hkp, hwk, hJj⟩ := hrel
    clear hx hJ0 hkX
    have hmz := aheadN_is hwk.wk
    have hnx := wnextG_any_s _ x b bw bs M (M.keys.drop j) wr (hTW.keepS hkp hN.1) (hW.keepS hkp hN.2.1 hN.2.2.1 hN.2.2.2.1) hI (fun k hk => hks k (List.mem_of_mem_drop hk)) (by omega) hwk
    clear hwk
    by_cases hjl : j < M.keys.length
    · have hsk : M.skip (M.keys.drop j) = M.keys.getD j ByteArray.empty :: M.keys.drop (j + 1) := by
        rw [drop_cons hjl]
        exact skip_all hI (getD_mem hjl)
      have hpt := pairs_take hjl
      rw [show M.nk (M.keys.drop j) = M.keys.getD j ByteArray.empty by unfold SM.nk; rw [hsk]; rfl, show M.nv (M.keys.drop j) = valK M (M.keys.getD j ByteArray.empty) by unfold SM.nv; rw [hsk], show M.nb (M.keys.drop j) = true by unfold SM.nb; rw [hsk], hsk, List.tail_cons] at hnx
      clear hsk
      generalize M.keys.getD j ByteArray.empty = k at *
      generalize valK M k = v at *
      have hpre : M.pairs.take j ++ [(k, v)] <+: M.pairs := by rw [hpt]; exact List.take_prefix _ _
      gi_wp2_with (refine ⟨trivial, ?_⟩; gi_at_call 81; refine (callsIn_wide.2 hnx).mono ?_; rintro e Y ⟨rfl, hwY, hbY⟩; obtain ⟨fn, tmps, assign, body, hy, hR⟩ := YieldAt.wide (m' := 2) (hY X.heap.size (M.pairs.take j) (k, v) Y hXz (Nat.le_trans hz hbY.size) hpre (hJ _ _ wr Y hXz hJj (hbY.toOutside hx1 hx2))); dsimp only at hy)
      refine hR.mono ?_
      clear hR hy
      rintro e Z ⟨bb, rfl, hk1, hk2, hb⟩
      have hzY := hbY.size
      have hzZ := hk2.size
      have hkZ : KeepS (mapS b bw bs Bm) W Z := (hkp.trans (hbY.keepS fun k hk => ⟨by have := hSw k hk; simp; omega, by have := hSw k hk; omega⟩)).trans hk1
      have hwZ := hwY.keeps hk2 ⟨hx1, hx2⟩
      have hmZ := aheadN_is hwZ.wk
      rw [hpt] at hb
      cases bb with
      | true =>
        rw [if_pos rfl] at hb
        gi_wp2
        go_roundw
        case rel => exact ⟨j + 1, by omega, by omega, hkZ, hwZ, hb⟩
        case measure =>
          rw [hmZ, hmz, List.length_drop, List.length_drop]
          omega
      | false =>
        rw [if_neg (by simp)] at hb
        gi_wp2
        refine bodyPost_ret (results_none rfl _ _ _) rfl ?_
        exact ⟨⟨_, rfl⟩, X.heap.size, hXz, .inr ⟨_, List.take_prefix _ _, hb⟩⟩
    · obtain rfl : j = M.keys.length := by omega
      have hsk : M.skip (M.keys.drop M.keys.length) = [] := by rw [List.drop_eq_nil_of_le (Nat.le_refl _)]; rfl
      have hpt : M.pairs.take M.keys.length = M.pairs := List.take_of_length_le (by unfold SM.pairs; simp)
      rw [show M.nk (M.keys.drop M.keys.length) = ⟨#[]⟩ by unfold SM.nk; rw [hsk]; rfl, show M.nv (M.keys.drop M.keys.length) = ⟨#[]⟩ by unfold SM.nv; rw [hsk], show M.nb (M.keys.drop M.keys.length) = false by unfold SM.nb; rw [hsk]] at hnx
      rw [hpt] at hJj
      clear hsk hpt
      gi_wp2_with (refine ⟨trivial, ?_⟩; gi_at_call 81; refine (callsIn_wide.2 hnx).mono ?_; rintro e Y ⟨rfl, hwY, hbY⟩)
      refine ⟨(fun _ h => by cases h), ?_⟩
      gi_wp2
      refine bodyPost_ret (results_none rfl _ _ _) rfl ?_
      exact ⟨⟨_, rfl⟩, X.heap.size, hXz, .inl (hJ _ _ wr Y hXz hJj (hbY.toOutside hx1 hx2))⟩

theorem left_nil_s (w : World) : Calls Tryz.prog 110 #[.pointer none] w fun e w' => e = .returned (.int .i64 0) ∧ w' = w := by
  go_enter Tryz.func110, Tryz.ntmps110
  go_wp2
  go_ret
  exact ⟨rfl, rfl⟩
theorem left_end_s (x : Nat) (m : Value) (w : World) (h : Wk 141 w x m []) : Calls Tryz.prog 110 #[.pointer (some ⟨x, 0, none⟩)] w fun e w' => e = .returned (.int .i64 0) ∧ w' = w := by
  obtain ⟨v, c0, c1, f1, ⟨p, c, rfl, h1, h2, h3⟩, _⟩ := h.cells
  clear h3
  go_enter Tryz.func110, Tryz.ntmps110
  go_wp2
  go_ret
  exact ⟨rfl, rfl⟩
/-- A walk that has nothing ahead. -/
def NoWalkS (w : World) (a : Option Addr) : Prop := ∀ X, Below w.heap.size w X → Calls Tryz.prog 110 #[.pointer a] X fun e w' => e = .returned (.int .i64 0) ∧ w' = X
theorem noWalkS_nil (w : World) : NoWalkS w none := fun X _ => left_nil_s X
theorem noWalkS_end {w : World} {x : Nat} {m : Value} (h : Wk 141 w x m []) : NoWalkS w (some ⟨x, 0, none⟩) := fun X hX => left_end_s x m X (h.below hX)
set_option maxHeartbeats 1000000 in
theorem next_none_s (a : Option Addr) (w : World) (h : NoWalkS w a) : Calls Tryz.prog 81 #[.pointer a] w fun e w' => e = .returned (.tuple #[.string ⟨#[]⟩, .string ⟨#[]⟩, .bool false]) ∧ w' = w := by
  have hl := h w (Below.refl _ _)
  go_enter Tryz.func81, Tryz.ntmps81
  go_wp2
  go_loopw [3] (fun v wr => v = .string ⟨#[]⟩ ∧ wr = w) (fun _ _ => 0)
  case atStart => exact ⟨rfl, rfl⟩
  case round =>
    obtain ⟨rfl, rfl⟩ := hrel
    go_wp2_with fail
    refine same_mono hl ?_
    go_wp2
    go_ret3
    exact ⟨rfl, rfl⟩
theorem wnew_none_s (w : World) : Calls Tryz.prog 80 #[.pointer none] w fun e w' => ∃ x, e = .returned (.pointer (some ⟨x, 0, none⟩)) ∧ Wk 141 w' x (.pointer none) [] ∧ w.heap.size ≤ x ∧ x < w'.heap.size ∧ Below w.heap.size w w' := by
  have hk := keys_none_s none w (noMap_nil_s w)
  go_enter Tryz.func80, Tryz.ntmps80
  go_wp2_with fail
  refine hk.mono ?_
  rintro e w1 ⟨rfl, hb⟩
  have hw := wk_new w1 (.pointer none) (.slice none 0 0) 141 [] (RowT.nil0 _)
  clear hk
  go_wp2
  go_ret
  exact ⟨_, rfl, hw, hb.size, by simp, hb.alloc hb.size _⟩
set_option maxRecDepth 100000 in
set_option maxHeartbeats 2000000 in
/-- The function that All makes over no map: it tells nothing. -/
theorem all1_none_s (B0 : Nat) (w : World) (hb : Boxed w B0 28 (.pointer none)) :
    SeqS Tryz.prog 79 #[] #[.pointer (some ⟨B0, 0, none⟩)] (fun x : ByteArray × ByteArray => #[.string x.1, .string x.2]) (fun k => k = B0) [] w := by
  intro l J Jx W hK hJ hJx hY h0
  have c0 := (hK.box hb rfl).cell
  refine (callsIn_wide (n := 3)).1 ?_
  refine callsIn_of_wp Tryz.func79 rfl trivial ?_ rfl
  simp only [Tryz.ntmps79, List.size_toArray, List.length_cons, List.length_nil, Nat.reduceAdd, Nat.reduceSub, Array.replicate_succ, Array.replicate_zero, List.push_toArray, List.append_toArray, List.nil_append, List.cons_append]
  gi_wp2_with (refine ⟨trivial, ?_⟩; gi_at_call 80; refine (callsIn_wide.2 (wnew_none_s _)).mono ?_; rintro e X ⟨x, rfl, hx, hx1, hx2, hX⟩)
  have hnx := next_none_s _ X (noWalkS_end hx)
  gi_loopw [] (fun wr => wr = X) (fun _ => 0)
  case atStart => exact rfl
  case round =>
    obtain rfl := hrel
    gi_wp2_with (refine ⟨trivial, ?_⟩; gi_at_call 81; refine (callsIn_wide.2 hnx).mono ?_; rintro e Y ⟨rfl, rfl⟩)
    refine ⟨(fun _ h => by cases h), ?_⟩
    gi_wp2
    refine bodyPost_ret (results_none rfl _ _ _) rfl ?_
    exact ⟨⟨_, rfl⟩, _, by have := hX.size; omega, .inl (h0 _ hX)⟩

end Go.Proofs.YthlghokgknkpaaaGreatDoor
