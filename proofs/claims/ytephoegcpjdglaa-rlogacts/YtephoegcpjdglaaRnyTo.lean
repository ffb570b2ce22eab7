import Derived.RangeFuncNested
import Derived.RangeFuncLeaves
import Derived.RangeFuncBound
import Derived.Shelf.Abstract
import Derived.Shelf.RegionOpen
import Derived.WalkKit
import Derived.OwnWalkIn
import Derived.TacticsInMore
import Derived.LoopNIn
import Derived.LoopIn
namespace Go.Proofs.Ytephoegcpjdglaa
open Go.RowKit Go.Shelf
structure Keeps (A B : Nat) (X Y : World) : Prop where
  size : X.heap.size ≤ Y.heap.size
  same : ∀ k, A ≤ k → k < B → Y.heap[k]? = X.heap[k]?

theorem Keeps.refl (A B : Nat) (X : World) : Keeps A B X X := ⟨Nat.le_refl _, fun _ _ _ => rfl⟩
theorem Keeps.trans {A B : Nat} {X Y Z : World} (h : Keeps A B X Y) (k : Keeps A B Y Z) : Keeps A B X Z := ⟨Nat.le_trans h.size k.size, fun i h1 h2 => (k.same i h1 h2).trans (h.same i h1 h2)⟩
theorem Keeps.mono {A B A' B' : Nat} {X Y : World} (h : Keeps A B X Y) (hA : A ≤ A') (hB : B' ≤ B) : Keeps A' B' X Y := ⟨h.size, fun i h1 h2 => h.same i (Nat.le_trans hA h1) (Nat.lt_of_lt_of_le h2 hB)⟩
theorem Keeps.of_below {A B C : Nat} {X Y : World} (h : Below C X Y) (hB : B ≤ C) : Keeps A B X Y := ⟨h.size, fun i _ h2 => h.block i (Nat.lt_of_lt_of_le h2 hB)⟩
theorem Keeps.putObj {A B : Nat} {X Y : World} (h : Keeps A B X Y) {r : Nat} (hr : r < A ∨ B ≤ r) (o : Obj) : Keeps A B X (Y.putObj r o) :=
  h.trans ⟨by simp, fun i _ _ => World.putObj_heap_other (by omega)⟩
theorem YieldAt.wide {m m' : Nat} {P : Program} {l : Nat} {args : Array Value} {W : World} {R : Ending → World → Prop} (h : YieldAt Fence.wide m P l args W R) : YieldAt Fence.wide m' P l args W R := by
  obtain ⟨fn, tmps, assign, body, hy, hR⟩ := h
  exact ⟨fn, tmps, assign, body, hy, hR.1, fun c cs _ => hR.2 c cs (fun _ h => by cases h)⟩

theorem wide_fn (f : FuncId) : Fence.wide.fn f := trivial

structure KeepS (S : Nat → Prop) (X Y : World) : Prop where
  size : X.heap.size ≤ Y.heap.size
  same : ∀ k, S k → Y.heap[k]? = X.heap[k]?
theorem KeepS.refl (S : Nat → Prop) (X : World) : KeepS S X X := ⟨Nat.le_refl _, fun _ _ => rfl⟩
theorem KeepS.trans {S : Nat → Prop} {X Y Z : World} (h : KeepS S X Y) (k : KeepS S Y Z) : KeepS S X Z := ⟨Nat.le_trans h.size k.size, fun i h1 => (k.same i h1).trans (h.same i h1)⟩
theorem KeepS.of_below {S : Nat → Prop} {C : Nat} {X Y : World} (h : Below C X Y) (hB : ∀ k, S k → k < C) : KeepS S X Y := ⟨h.size, fun i h1 => h.block i (hB i h1)⟩
theorem KeepS.putObj {S : Nat → Prop} {X Y : World} (h : KeepS S X Y) {r : Nat} (hr : ¬ S r) (o : Obj) : KeepS S X (Y.putObj r o) :=
  h.trans ⟨by simp, fun _ hi => World.putObj_heap_other (fun e => hr (e ▸ hi))⟩
theorem KeepS.box {S : Nat → Prop} {k : Nat} {X Y : World} (h : KeepS S X Y) {t : TypeId} {v : Value} (hb : Boxed X k t v) (hk : S k) : Boxed Y k t v := (h.same k hk).trans hb

def sPost {α : Type} (S : Nat → Prop) (A B : Nat) (I : List α → World → Prop) (Ix : Code → List α → World → Prop) (xs : List α) (X : World) : Exit → Act → World → Prop
  | .normal, _, Y => KeepS S X Y ∧ Keeps A B X Y ∧ I xs Y
  | .ret, _, Y => KeepS S X Y ∧ Keeps A B X Y ∧ Ix .ret xs Y
  | .exit id, _, Y => KeepS S X Y ∧ Keeps A B X Y ∧ Ix (.exit id) xs Y
  | .goto t, _, Y => KeepS S X Y ∧ Keeps A B X Y ∧ Ix (.goto t) xs Y
  | .panic _, _, _ => False
  | .outgrown, _, _ => False

structure OutsideW (A B : Nat) (X Y : World) : Prop where
  os : Y.os = X.os
  tape : Y.tape = X.tape
  output : Y.output = X.output
  size : X.heap.size ≤ Y.heap.size
  block : ∀ k o, X.heap[k]? = some o → (k < A ∨ B ≤ k) → Y.heap[k]? = some o
theorem OutsideW.mono {A A' B : Nat} {X Y : World} (h : OutsideW A B X Y) (hA : A' ≤ A) : OutsideW A' B X Y :=
  ⟨h.os, h.tape, h.output, h.size, fun i o hi ho => h.block i o hi (ho.imp_left fun h' => Nat.lt_of_lt_of_le h' hA)⟩
theorem OutsideW.putObj {A B : Nat} {X : World} {r : Nat} {o : Obj} (o' : Obj) (hr : A ≤ r ∧ r < B) (_hl : X.heap[r]? = some o) : OutsideW A B X (X.putObj r o') :=
  ⟨rfl, rfl, rfl, by simp, fun i o'' hi h' => (World.putObj_heap_other (fun e => by omega)).trans hi⟩
theorem OutsideW.below {A B C : Nat} {X Y : World} (h : OutsideW A B X Y) (hC : C ≤ A) (hX : C ≤ X.heap.size) : Below C X Y :=
  ⟨h.os, h.tape, h.output, h.size, fun k hk => by
    have hk' : k < X.heap.size := by omega
    rw [h.block k _ (Array.getElem?_eq_getElem hk') (.inl (by omega)), Array.getElem?_eq_getElem hk']⟩
theorem OutsideW.same {A B : Nat} {X Y : World} (h : OutsideW A B X Y) {k : Nat} (hk : k < X.heap.size) (hs : k < A ∨ B ≤ k) : Y.heap[k]? = X.heap[k]? := by
  rw [h.block k _ (Array.getElem?_eq_getElem hk) hs, Array.getElem?_eq_getElem hk]

def SeqY {α : Type} (P : Program) (g : Nat) (fb lb : Array Value) (encs : α → Array Value) (S : Nat → Prop) (Ok : Nat → List α → α → World → Prop) (Fin : List α → Prop) (w : World) : Prop :=
  ∀ (l : Nat) (J Jx : Nat → List α → World → Prop) (W : World), KeepS S w W →
    (∀ B pre X Y, W.heap.size ≤ B → J B pre X → OutsideW W.heap.size B X Y → J B pre Y) →
    (∀ B pre X Y, W.heap.size ≤ B → Jx B pre X → OutsideW W.heap.size B X Y → Jx B pre Y) →
    (∀ B pre x X, W.heap.size ≤ B → B ≤ X.heap.size → Ok B pre x X → J B pre X → YieldAt Fence.wide 0 P l (encs x) X fun e Y =>
      ∃ b : Bool, e = .returned (.bool b) ∧ KeepS S X Y ∧ Keeps W.heap.size B X Y ∧ (if b then J B (pre ++ [x]) Y else Jx B (pre ++ [x]) Y)) →
    (∀ X, Below W.heap.size W X → J X.heap.size [] X) →
    Calls P g (fb ++ #[.func (.yield l) #[] #[]] ++ lb) W fun e Y => (∃ v, e = .returned v) ∧ ∃ B pre, W.heap.size ≤ B ∧ ((Fin pre ∧ J B pre Y) ∨ Jx B pre Y)

theorem range_seqY {α : Type} {n m : Nat} {P : Program} {g : Operand} {ps : Array Tmp} {assign body : Code} {Q : Exit → Act → World → Prop} {a : Act} {w : World}
    {gf : Nat} {fb lb : Array Value} (hg : a.eval g = .func (.func gf) fb lb) (eg : ∀ args w, (callFunc gf args).run P w = .ok (.enter gf args) w)
    {encs : α → Array Value} {S : Nat → Prop} {Ok : Nat → List α → α → World → Prop} {Fin : List α → Prop} (hseq : SeqY P gf fb lb encs S Ok Fin w) (hhi : ∀ k, S k → k < w.heap.size) (hps : ∀ x, (encs x).size = ps.size)
    (I : Nat → List α → World → Prop) (Ix : Nat → Code → List α → World → Prop)
    (hI : ∀ B pre X Y, w.heap.size + 2 ≤ B → I B pre X → OutsideW w.heap.size B X Y → I B pre Y)
    (hIx : ∀ B c pre X Y, w.heap.size + 2 ≤ B → Ix B c pre X → OutsideW w.heap.size B X Y → Ix B c pre Y)
    (h0 : ∀ X, Below w.heap.size w X → w.heap.size + 2 ≤ X.heap.size → I X.heap.size [] X)
    (Ax : Nat → List α → α → Act → World → Prop)
    (hOk : ∀ B pre x X Y, w.heap.size + 2 ≤ B → Ok B pre x X → OutsideW w.heap.size B X Y → Ok B pre x Y)
    (hAx : ∀ B pre x a' X Y, w.heap.size + 2 ≤ B → Ax B pre x a' X → OutsideW w.heap.size B X Y → Ax B pre x a' Y)
    (hassign : ∀ (l B : Nat) (pre : List α) (x : α) (W : World) (K : Act → World → Prop), w.heap.size + 2 ≤ B → B ≤ W.heap.size → Ok B pre x W →
      (∀ a' W', Below W.heap.size W W' → Ax B pre x a' W' → K a' W') →
      assign.wpIn (Fence.wide.inRound l) m P (Exit.then K (fun _ _ _ => False)) { tmps := (ps.zip (encs x)).foldl (fun t (p, v) => t.setIfInBounds p v) a.tmps, defers := [] } W)
    (hbody : ∀ (l B : Nat) (pre : List α) (x : α) (a' : Act) (W : World), w.heap.size + 2 ≤ B → B ≤ W.heap.size → Ok B pre x W → I B pre W → Ax B pre x a' W →
      body.wpIn (Fence.wide.inRound l) m P (sPost S w.heap.size B (I B) (Ix B) (pre ++ [x]) W) a' W)
    (hdone : ∀ (B : Nat) (pre : List α) (W : World), w.heap.size + 2 ≤ B → Fin pre → I B pre W → W.heap[w.heap.size]? = some (.deferred (some [])) → Q .normal { a with defers := { target := .collected w.heap.size, args := #[] } :: a.defers } W)
    (hstop : ∀ (B : Nat) (c : Code) (pre : List α) (W : World), w.heap.size + 2 ≤ B → Ix B c pre W → W.heap[w.heap.size]? = some (.deferred (some [])) →
      c.wpIn Fence.wide n P Q { a with defers := { target := .collected w.heap.size, args := #[] } :: a.defers } W) :
    (Code.rangeFunc g ps assign body).wpIn Fence.wide n P Q a w := by
  refine wpIn_rangeFunc fun fn _ => ?_
  let rec' : LoopState → Option Code → Loop := fun st pe => { state := st, pending := pe, fn := fn, tmps := a.tmps, params := ps, assign := assign, body := body, defers := w.heap.size }
  obtain ⟨W0, hW0⟩ : ∃ W0, (w.alloc (.deferred (some []))).alloc (.loop (rec' .ready none)) = W0 := ⟨_, rfl⟩
  have hz : W0.heap.size = w.heap.size + 2 := by rw [← hW0]; simp
  have hB0 : Below w.heap.size w W0 := by rw [← hW0]; exact ((Below.refl _ w).alloc (Nat.le_refl _) _).alloc (by simp) _
  have hl0 : W0.heap[w.heap.size + 1]? = some (.loop (rec' .ready none)) := by
    have := World.alloc_heap_new (w.alloc (.deferred (some []))) (.loop (rec' .ready none))
    rw [World.size_alloc] at this
    rw [← hW0]; exact this
  have hd0 : W0.heap[w.heap.size]? = some (.deferred (some [])) := by
    rw [← hW0]; exact (Below.heap_alloc _ _ _ (by simp)).trans (World.alloc_heap_new w _)
  refine ⟨w.heap.size + 1, [{ target := .collected w.heap.size, args := #[] }], W0, { target := .fn (.func gf) lb, args := fb ++ #[.func (.yield (w.heap.size + 1)) #[] #[]] }, W0, gf,
    fb ++ #[.func (.yield (w.heap.size + 1)) #[] #[]] ++ lb, W0, ?_, ?_, fun _ _ => trivial, ?_, (fun h => by cases h), ?_⟩
  · rw [← hW0]; exact run_enterLoop_outer _ _ _ _ _
  · simp only [resolve, hg]; simp [go_sem]
  · simp [invoke, go_sem, eg]
  refine callsIn_wide.2 ?_
  refine (hseq (w.heap.size + 1)
    (fun B pre X => I B pre X ∧ X.heap[w.heap.size + 1]? = some (.loop (rec' .ready none)) ∧ X.heap[w.heap.size]? = some (.deferred (some [])))
    (fun B pre X => ∃ c, Ix B c pre X ∧ X.heap[w.heap.size + 1]? = some (.loop (rec' .done (some c))) ∧ X.heap[w.heap.size]? = some (.deferred (some [])))
    W0 (KeepS.of_below hB0 hhi) ?_ ?_ ?_ ?_).mono ?_
  · rintro B pre X Y hB ⟨h1, h2, h3⟩ ho
    exact ⟨hI B pre X Y (by omega) h1 (ho.mono (by omega)), ho.block _ _ h2 (.inl (by omega)), ho.block _ _ h3 (.inl (by omega))⟩
  · rintro B pre X Y hB ⟨c, h1, h2, h3⟩ ho
    exact ⟨c, hIx B c pre X Y (by omega) h1 (ho.mono (by omega)), ho.block _ _ h2 (.inl (by omega)), ho.block _ _ h3 (.inl (by omega))⟩
  · rintro B pre x X0 hB hBX hok ⟨hi0, hl0', hd0'⟩
    have hy := run_yield (P := P) (args := encs x) hl0' (hps x)
    refine YieldAt.wide (m := m) ⟨fn, _, assign, body, hy, roundIn_of_wpIn (wide_fn fn) (hassign _ B pre x X0 _ (by omega) hBX hok fun a' X hbX hax => ?_)⟩
    have hz0 : X0.heap.size ≤ X.heap.size := hbX.size
    have hl : X.heap[w.heap.size + 1]? = some (.loop (rec' .ready none)) := (hbX.block _ (Array.getElem?_eq_some_iff.1 hl0').1).trans hl0'
    have hd : X.heap[w.heap.size]? = some (.deferred (some [])) := (hbX.block _ (Array.getElem?_eq_some_iff.1 hd0').1).trans hd0'
    have hoX : OutsideW w.heap.size B X0 X := ⟨hbX.os, hbX.tape, hbX.output, hbX.size, fun k o hk _ => (hbX.block k (Array.getElem?_eq_some_iff.1 hk).1).trans hk⟩
    have hi1 := hI B pre X0 X (by omega) hi0 hoX
    refine ⟨_, run_beginRound hl rfl, ?_⟩
    clear hy
    have hlt : w.heap.size + 1 < X.heap.size := (Array.getElem?_eq_some_iff.1 hl).1
    obtain ⟨X1, hX1⟩ : ∃ X1, X.putObj (w.heap.size + 1) (.loop { rec' .ready none with state := .busy }) = X1 := ⟨_, rfl⟩
    have ho1 : OutsideW w.heap.size B X X1 := by rw [← hX1]; exact OutsideW.putObj _ ⟨by omega, by omega⟩ hl
    have hk0 : ∀ A' B', B' ≤ B → Keeps A' B' X0 X := fun A' B' h => Keeps.of_below hbX (by omega)
    have hk1' : ∀ A' B', w.heap.size + 2 ≤ A' ∨ B' ≤ w.heap.size → Keeps A' B' X X1 := fun A' B' h => by rw [← hX1]; exact (Keeps.refl _ _ _).putObj (by omega) _
    have hk1 : ∀ A' B', B' ≤ B → w.heap.size + 2 ≤ A' ∨ B' ≤ w.heap.size → Keeps A' B' X0 X1 := fun A' B' hB' h => (hk0 A' B' hB').trans (hk1' A' B' h)
    have hks : KeepS S X0 X1 := (KeepS.of_below hbX (fun k hk => by have := hhi k hk; omega)).trans (by rw [← hX1]; exact (KeepS.refl _ _).putObj (fun h => by have := hhi _ h; omega) _)
    have hl1 : X1.heap[w.heap.size + 1]? = some (.loop { rec' .ready none with state := .busy }) := by rw [← hX1]; exact World.putObj_heap_same hlt
    have hd1 : X1.heap[w.heap.size]? = some (.deferred (some [])) := by rw [← hX1]; exact (World.putObj_heap_other (by omega)).trans hd
    have hz1 : X1.heap.size = X.heap.size := by rw [← hX1]; simp
    rw [hX1]
    refine wpIn_mono (hbody _ B pre x a' X1 (by omega) (by omega) (hOk B pre x X X1 (by omega) (hOk B pre x X0 X (by omega) hok hoX) ho1) (hI B pre X X1 (by omega) hi1 ho1) (hAx B pre x a' X X1 (by omega) hax ho1)) ?_
    have fin : ∀ (jump : Option Code) (Z : World), KeepS S X1 Z → Keeps w.heap.size B X1 Z →
        ∃ Z', (Instr.endRound (w.heap.size + 1) jump).run P Z = .ok (.bool jump.isNone) Z' ∧ Z'.heap[w.heap.size + 1]? = some (.loop (rec' (if jump.isNone then .ready else .done) jump)) ∧
          Z'.heap[w.heap.size]? = some (.deferred (some [])) ∧ KeepS S X0 Z' ∧ Keeps W0.heap.size B X0 Z' ∧ OutsideW w.heap.size B Z Z' := fun jump Z k1 k2 => by
      have hl2 : Z.heap[w.heap.size + 1]? = some (.loop { rec' .ready none with state := .busy }) := (k2.same _ (by omega) (by omega)).trans hl1
      have hd2 : Z.heap[w.heap.size]? = some (.deferred (some [])) := (k2.same _ (by omega) (by omega)).trans hd1
      refine ⟨_, run_endRound jump hl2, World.putObj_heap_same (Array.getElem?_eq_some_iff.1 hl2).1, (World.putObj_heap_other (by omega)).trans hd2, ?_, ?_, OutsideW.putObj _ ⟨by omega, by omega⟩ hl2⟩
      · exact (hks.trans k1).putObj (fun h => by have := hhi _ h; omega) _
      · exact ((hk1 _ _ (Nat.le_refl _) (.inl (by omega))).trans (k2.mono (by omega) (Nat.le_refl _))).putObj (.inl (by omega)) _
    rintro e a3 Z hp
    cases e with
    | normal =>
      obtain ⟨k1, k2, k3⟩ := hp
      obtain ⟨Z', r1, r2, r3, r4, r5, r6⟩ := fin none Z k1 k2
      exact ⟨_, _, r1, true, rfl, r4, r5, hI B _ Z Z' (by omega) k3 r6, r2, r3⟩
    | ret =>
      obtain ⟨k1, k2, k3⟩ := hp
      obtain ⟨Z', r1, r2, r3, r4, r5, r6⟩ := fin (some .ret) Z k1 k2
      exact ⟨_, _, r1, false, rfl, r4, r5, .ret, hIx B _ _ Z Z' (by omega) k3 r6, r2, r3⟩
    | exit id =>
      obtain ⟨k1, k2, k3⟩ := hp
      obtain ⟨Z', r1, r2, r3, r4, r5, r6⟩ := fin (some (.exit id)) Z k1 k2
      exact ⟨_, _, r1, false, rfl, r4, r5, .exit id, hIx B _ _ Z Z' (by omega) k3 r6, r2, r3⟩
    | goto t =>
      obtain ⟨k1, k2, k3⟩ := hp
      obtain ⟨Z', r1, r2, r3, r4, r5, r6⟩ := fin (some (.goto t)) Z k1 k2
      exact ⟨_, _, r1, false, rfl, r4, r5, .goto t, hIx B _ _ Z Z' (by omega) k3 r6, r2, r3⟩
    | panic ch => exact hp.elim
    | outgrown => exact hp.elim
  · intro X hX
    exact ⟨h0 X (hB0.trans (hX.mono (by omega))) (by have := hX.size; omega), (hX.block _ (by omega)).trans hl0, (hX.block _ (by omega)).trans hd0⟩
  · rintro e Z ⟨⟨v, rfl⟩, B, pre, hB, (⟨hF, k1, k2, k3⟩ | ⟨c, k1, k2, k3⟩)⟩
    · exact ⟨none, _, run_endLoop k2 (by intro h; cases h), hdone B pre _ (by omega) hF (hI B _ _ _ (by omega) k1 (OutsideW.putObj _ ⟨by omega, by omega⟩ k2)) ((World.putObj_heap_other (by omega)).trans k3)⟩
    · exact ⟨some c, _, run_endLoop k2 (by intro h; cases h), hstop B c pre _ (by omega) (hIx B _ _ _ _ (by omega) k1 (OutsideW.putObj _ ⟨by omega, by omega⟩ k2)) ((World.putObj_heap_other (by omega)).trans k3)⟩
end Go.Proofs.Ytephoegcpjdglaa
