import Derived.Test.YthlelcmifolnfaaGreatDoorRnsTo
import Derived.Test.YthlelcmifolnfaaGreatDoorDkM
namespace Go.Proofs.YthlelcmifolnfaaGreatDoor
open Go.RowKit Go.Shelf

structure Soft (X Y : World) : Prop where
  size : X.heap.size ≤ Y.heap.size
  block : ∀ (k : Nat) (o : Obj), X.heap[k]? = some o → o.isCells = true → Y.heap[k]? = some o
theorem Soft.putObj {X : World} {r : Nat} {o : Obj} (o' : Obj) (hl : X.heap[r]? = some o) (ho : o.isCells = false) : Soft X (X.putObj r o') :=
  ⟨by simp, fun i o2 hi h2 => by
    refine (World.putObj_heap_other (fun e => ?_)).trans hi
    subst e
    rw [hl] at hi
    cases hi
    rw [ho] at h2
    cases h2⟩
theorem Turn.putObj {T : Nat → Prop} {X : World} {r : Nat} (o' : Obj) (hr : T r) : Turn T X (X.putObj r o') :=
  ⟨rfl, rfl, rfl, by simp, fun _ _ hn => World.putObj_heap_other (fun e => hn (e ▸ hr))⟩
def recT (s : Nat) (T : Nat → Prop) : Nat → Prop := fun k => T k ∨ k = s ∨ k = s + 1

def SeqZ {α : Type} (P : Program) (g : Nat) (fb lb : Array Value) (encs : α → Array Value) (S : Nat → Prop) (Gv : α → Nat → Prop) (Ok : Nat → (Nat → Prop) → List α → α → World → Prop) (Fin : List α → Prop) (w : World) : Prop :=
  ∀ (l : Nat) (J Jx : (Nat → Prop) → List α → World → Prop) (W : World), KeepS S w W →
    (∀ T T' pre X Y, J T pre X → Turn T X Y → (∀ k, T' k → T k ∨ X.heap.size ≤ k) → J T' pre Y) →
    (∀ T T' pre X Y, Jx T pre X → Turn T X Y → (∀ k, T' k → T k ∨ X.heap.size ≤ k) → Jx T' pre Y) →
    (∀ T pre x X, W.heap.size ≤ X.heap.size → (∀ k, T k → W.heap.size ≤ k ∧ k < X.heap.size) → Ok W.heap.size T pre x X → J (fun k => T k ∨ Gv x k) pre X → YieldAt Fence.wide 0 P l (encs x) X fun e Y =>
      ∃ b : Bool, e = .returned (.bool b) ∧ KeepS S X Y ∧ KeepS T X Y ∧ (if b then J T (pre ++ [x]) Y else Jx T (pre ++ [x]) Y)) →
    J (fun _ => False) [] W →
    Calls P g (fb ++ #[.func (.yield l) #[] #[]] ++ lb) W fun e Y => (∃ v, e = .returned v) ∧ ∃ T pre, W.heap.size ≤ Y.heap.size ∧ (∀ k, T k → W.heap.size ≤ k ∧ k < Y.heap.size) ∧ ((Fin pre ∧ J T pre Y) ∨ Jx T pre Y)

def zPost {α : Type} (S T : Nat → Prop) (I : List α → World → Prop) (Ix : Code → List α → World → Prop) (xs : List α) (X : World) : Exit → Act → World → Prop
  | .normal, _, Y => KeepS S X Y ∧ KeepS T X Y ∧ I xs Y
  | .ret, _, Y => KeepS S X Y ∧ KeepS T X Y ∧ Ix .ret xs Y
  | .exit id, _, Y => KeepS S X Y ∧ KeepS T X Y ∧ Ix (.exit id) xs Y
  | .goto t, _, Y => KeepS S X Y ∧ KeepS T X Y ∧ Ix (.goto t) xs Y
  | .panic _, _, _ => False
  | .outgrown, _, _ => False

theorem range_seqZ {α : Type} {n m : Nat} {P : Program} {g : Operand} {ps : Array Tmp} {assign body : Code} {Q : Exit → Act → World → Prop} {a : Act} {w : World}
    {gf : Nat} {fb lb : Array Value} (hg : a.eval g = .func (.func gf) fb lb) (eg : ∀ args w, (callFunc gf args).run P w = .ok (.enter gf args) w)
    {encs : α → Array Value} {S : Nat → Prop} {Gv : α → Nat → Prop} {Ok : Nat → (Nat → Prop) → List α → α → World → Prop} {Fin : List α → Prop} (hseq : SeqZ P gf fb lb encs S Gv Ok Fin w) (hhi : ∀ k, S k → k < w.heap.size) (hps : ∀ x, (encs x).size = ps.size)
    (I : (Nat → Prop) → List α → World → Prop) (Ix : (Nat → Prop) → Code → List α → World → Prop)
    (hI : ∀ T T' pre X Y, I T pre X → Turn T X Y → (∀ k, T' k → T k ∨ X.heap.size ≤ k) → I T' pre Y)
    (hIx : ∀ T T' c pre X Y, Ix T c pre X → Turn T X Y → (∀ k, T' k → T k ∨ X.heap.size ≤ k) → Ix T' c pre Y)
    (h0 : I (fun _ => False) [] w)
    (hOk : ∀ A T pre x X Y, Ok A T pre x X → Soft X Y → Ok A T pre x Y)
    (hab : ∃ a₁ : α → Act, (∀ (l : Nat) (x : α) (W : World) (K : Act → World → Prop), K (a₁ x) W →
      assign.wpIn (Fence.wide.inRound l) m P (Exit.then K (fun _ _ _ => False)) { tmps := (ps.zip (encs x)).foldl (fun t (p, v) => t.setIfInBounds p v) a.tmps, defers := [] } W) ∧
      (∀ (l : Nat) (T : Nat → Prop) (pre : List α) (x : α) (W : World), w.heap.size + 2 ≤ W.heap.size → (∀ k, T k → w.heap.size + 2 ≤ k ∧ k < W.heap.size) → Ok (w.heap.size + 2) T pre x W → I (recT w.heap.size fun k => T k ∨ Gv x k) pre W →
      body.wpIn (Fence.wide.inRound l) m P (zPost S (recT w.heap.size T) (I (recT w.heap.size T)) (Ix (recT w.heap.size T)) (pre ++ [x]) W) (a₁ x) W))
    (hdone : ∀ (T : Nat → Prop) (pre : List α) (W : World), w.heap.size + 2 ≤ W.heap.size → (∀ k, T k → w.heap.size ≤ k ∧ k < W.heap.size) → T w.heap.size → Fin pre → I T pre W → W.heap[w.heap.size]? = some (.deferred (some [])) → Q .normal { a with defers := { target := .collected w.heap.size, args := #[] } :: a.defers } W)
    (hstop : ∀ (T : Nat → Prop) (c : Code) (pre : List α) (W : World), w.heap.size + 2 ≤ W.heap.size → (∀ k, T k → w.heap.size ≤ k ∧ k < W.heap.size) → T w.heap.size → Ix T c pre W → W.heap[w.heap.size]? = some (.deferred (some [])) →
      c.wpIn Fence.wide n P Q { a with defers := { target := .collected w.heap.size, args := #[] } :: a.defers } W) :
    (Code.rangeFunc g ps assign body).wpIn Fence.wide n P Q a w := by
  obtain ⟨a₁, hassign, hbody⟩ := hab
  refine wpIn_rangeFunc fun fn _ => ?_
  let rec' : LoopState → Option Code → Loop := fun st pe => { state := st, pending := pe, fn := fn, tmps := a.tmps, params := ps, assign := assign, body := body, defers := w.heap.size }
  obtain ⟨W0, hW0⟩ : ∃ W0, (w.alloc (.deferred (some []))).alloc (.loop (rec' .ready none)) = W0 := ⟨_, rfl⟩
  have hz : W0.heap.size = w.heap.size + 2 := by rw [← hW0]; simp
  have hB0 : Below w.heap.size w W0 := by rw [← hW0]; exact ((Below.refl _ w).alloc (Nat.le_refl _) _).alloc (by simp) _
  have hl0 : W0.heap[w.heap.size + 1]? = some (.loop (rec' .ready none)) := by
    have := World.alloc_heap_new (w.alloc (.deferred (some []))) (.loop (rec' .ready none))
    rw [World.size_alloc] at this
    rw [← hW0]; exact this
  have hd0 : W0.heap[w.heap.size]? = some (.deferred (some [])) := by
    rw [← hW0]; exact (Below.heap_alloc _ _ _ (by simp)).trans (World.alloc_heap_new w _)
  refine ⟨w.heap.size + 1, [{ target := .collected w.heap.size, args := #[] }], W0, { target := .fn (.func gf) lb, args := fb ++ #[.func (.yield (w.heap.size + 1)) #[] #[]] }, W0, gf,
    fb ++ #[.func (.yield (w.heap.size + 1)) #[] #[]] ++ lb, W0, ?_, ?_, fun _ _ => trivial, ?_, (fun h => by cases h), ?_⟩
  · rw [← hW0]; exact run_enterLoop_outer _ _ _ _ _
  · simp only [resolve, hg]; simp [go_sem]
  · simp [invoke, go_sem, eg]
  refine callsIn_wide.2 ?_
  have hrec : ∀ T : Nat → Prop, (∀ k, T k → w.heap.size + 2 ≤ k) → ¬ T (w.heap.size + 1) ∧ ¬ T w.heap.size := fun T hT => ⟨fun h => by have := hT _ h; omega, fun h => by have := hT _ h; omega⟩
  refine (hseq (w.heap.size + 1)
    (fun T pre X => w.heap.size + 2 ≤ X.heap.size ∧ (∀ k, T k → w.heap.size + 2 ≤ k) ∧ I (recT w.heap.size T) pre X ∧ X.heap[w.heap.size + 1]? = some (.loop (rec' .ready none)) ∧ X.heap[w.heap.size]? = some (.deferred (some [])))
    (fun T pre X => w.heap.size + 2 ≤ X.heap.size ∧ (∀ k, T k → w.heap.size + 2 ≤ k) ∧ ∃ c, Ix (recT w.heap.size T) c pre X ∧ X.heap[w.heap.size + 1]? = some (.loop (rec' .done (some c))) ∧ X.heap[w.heap.size]? = some (.deferred (some [])))
    W0 (KeepS.of_below hB0 hhi) ?_ ?_ ?_ ?_).mono ?_
  · rintro T T' pre X Y ⟨hs, hT, h1, h2, h3⟩ ht hT'
    obtain ⟨n1, n2⟩ := hrec T hT
    refine ⟨Nat.le_trans hs ht.size, fun k hk => ?_, hI _ _ _ _ _ h1 (ht.mono fun k hk => .inl (.inl hk)) (fun k hk => ?_), (ht.block _ (by omega) n1).trans h2, (ht.block _ (by omega) n2).trans h3⟩
    · rcases hT' k hk with h | h
      · exact hT k h
      · omega
    · rcases hk with hk | hk
      · exact (hT' k hk).imp .inl id
      · exact .inl (.inr hk)
  · rintro T T' pre X Y ⟨hs, hT, c, h1, h2, h3⟩ ht hT'
    obtain ⟨n1, n2⟩ := hrec T hT
    refine ⟨Nat.le_trans hs ht.size, fun k hk => ?_, c, hIx _ _ _ _ _ _ h1 (ht.mono fun k hk => .inl (.inl hk)) (fun k hk => ?_), (ht.block _ (by omega) n1).trans h2, (ht.block _ (by omega) n2).trans h3⟩
    · rcases hT' k hk with h | h
      · exact hT k h
      · omega
    · rcases hk with hk | hk
      · exact (hT' k hk).imp .inl id
      · exact .inl (.inr hk)
  · rintro T pre x X hWX hTX hok ⟨hs, hT, hi1, hl, hd⟩
    have hy := run_yield (P := P) (args := encs x) hl (hps x)
    refine YieldAt.wide (m := m) ⟨fn, _, assign, body, hy, roundIn_of_wpIn (wide_fn fn) (hassign _ x X _ ⟨_, run_beginRound hl rfl, ?_⟩)⟩
    clear hy
    have hlt : w.heap.size + 1 < X.heap.size := (Array.getElem?_eq_some_iff.1 hl).1
    obtain ⟨X1, hX1⟩ : ∃ X1, X.putObj (w.heap.size + 1) (.loop { rec' .ready none with state := .busy }) = X1 := ⟨_, rfl⟩
    have ht1 : Turn (recT w.heap.size fun k => T k ∨ Gv x k) X X1 := by rw [← hX1]; exact Turn.putObj _ (.inr (.inr rfl))
    have hsf : Soft X X1 := by rw [← hX1]; exact Soft.putObj _ hl rfl
    obtain ⟨n1, n2⟩ := hrec T fun k hk => hT k (.inl hk)
    have hkS : KeepS S X X1 := by rw [← hX1]; exact (KeepS.refl _ _).putObj (fun h => by have := hhi _ h; omega) _
    have hkT : KeepS T X X1 := by rw [← hX1]; exact (KeepS.refl _ _).putObj n1 _
    have hl1 : X1.heap[w.heap.size + 1]? = some (.loop { rec' .ready none with state := .busy }) := by rw [← hX1]; exact World.putObj_heap_same hlt
    have hd1 : X1.heap[w.heap.size]? = some (.deferred (some [])) := by rw [← hX1]; exact (World.putObj_heap_other (by omega)).trans hd
    have hz1 : X1.heap.size = X.heap.size := by rw [← hX1]; simp
    rw [hX1]
    refine wpIn_mono (hbody _ T pre x X1 (by omega) (fun k hk => ⟨hT k (.inl hk), by have := (hTX k hk).2; omega⟩) (by rw [← hz]; exact hOk _ _ _ _ _ _ hok hsf) (hI _ _ _ _ _ hi1 ht1 (fun _ h => .inl h))) ?_
    have fin : ∀ (jump : Option Code) (Z : World), KeepS S X1 Z → KeepS (recT w.heap.size T) X1 Z →
        ∃ Z', (Instr.endRound (w.heap.size + 1) jump).run P Z = .ok (.bool jump.isNone) Z' ∧ Z'.heap[w.heap.size + 1]? = some (.loop (rec' (if jump.isNone then .ready else .done) jump)) ∧
          Z'.heap[w.heap.size]? = some (.deferred (some [])) ∧ KeepS S X Z' ∧ KeepS T X Z' ∧ Turn (recT w.heap.size T) Z Z' ∧ w.heap.size + 2 ≤ Z'.heap.size := fun jump Z k1 k2 => by
      have hl2 : Z.heap[w.heap.size + 1]? = some (.loop { rec' .ready none with state := .busy }) := (k2.same _ (.inr (.inr rfl))).trans hl1
      have hd2 : Z.heap[w.heap.size]? = some (.deferred (some [])) := (k2.same _ (.inr (.inl rfl))).trans hd1
      have hzz := k1.size
      refine ⟨_, run_endRound jump hl2, World.putObj_heap_same (Array.getElem?_eq_some_iff.1 hl2).1, (World.putObj_heap_other (by omega)).trans hd2, ?_, ?_, Turn.putObj _ (.inr (.inr rfl)), by simp; omega⟩
      · exact (hkS.trans k1).putObj (fun h => by have := hhi _ h; omega) _
      · exact (hkT.trans ⟨k2.size, fun k hk => k2.same k (.inl hk)⟩).putObj n1 _
    rintro e a3 Z hp
    cases e with
    | normal =>
      obtain ⟨k1, k2, k3⟩ := hp
      obtain ⟨Z', r1, r2, r3, r4, r5, r6, r7⟩ := fin none Z k1 k2
      exact ⟨_, _, r1, true, rfl, r4, r5, r7, (fun k hk => hT k (.inl hk)), hI _ _ _ Z Z' k3 r6 (fun _ h => .inl h), r2, r3⟩
    | ret =>
      obtain ⟨k1, k2, k3⟩ := hp
      obtain ⟨Z', r1, r2, r3, r4, r5, r6, r7⟩ := fin (some .ret) Z k1 k2
      exact ⟨_, _, r1, false, rfl, r4, r5, r7, (fun k hk => hT k (.inl hk)), .ret, hIx _ _ _ _ Z Z' k3 r6 (fun _ h => .inl h), r2, r3⟩
    | exit id =>
      obtain ⟨k1, k2, k3⟩ := hp
      obtain ⟨Z', r1, r2, r3, r4, r5, r6, r7⟩ := fin (some (.exit id)) Z k1 k2
      exact ⟨_, _, r1, false, rfl, r4, r5, r7, (fun k hk => hT k (.inl hk)), .exit id, hIx _ _ _ _ Z Z' k3 r6 (fun _ h => .inl h), r2, r3⟩
    | goto t =>
      obtain ⟨k1, k2, k3⟩ := hp
      obtain ⟨Z', r1, r2, r3, r4, r5, r6, r7⟩ := fin (some (.goto t)) Z k1 k2
      exact ⟨_, _, r1, false, rfl, r4, r5, r7, (fun k hk => hT k (.inl hk)), .goto t, hIx _ _ _ _ Z Z' k3 r6 (fun _ h => .inl h), r2, r3⟩
    | panic ch => exact hp.elim
    | outgrown => exact hp.elim
  · exact ⟨by omega, (fun _ h => h.elim), hI _ _ _ _ _ h0 (Turn.of_below hB0 (Nat.le_refl _)) (fun k hk => by rcases hk with hk | hk; exact hk.elim; exact .inr (by omega)), hl0, hd0⟩
  · have hend : ∀ (T : Nat → Prop) (Z : World) (st : LoopState) (pe : Option Code), Z.heap[w.heap.size + 1]? = some (.loop (rec' st pe)) → (∀ k, T k → w.heap.size + 2 ≤ k) → Z.heap[w.heap.size]? = some (.deferred (some [])) → w.heap.size + 2 ≤ Z.heap.size → (∀ k, T k → W0.heap.size ≤ k ∧ k < Z.heap.size) →
        ∀ o, Turn (recT w.heap.size T) Z (Z.putObj (w.heap.size + 1) o) ∧ (Z.putObj (w.heap.size + 1) o).heap[w.heap.size]? = some (.deferred (some [])) ∧ w.heap.size + 2 ≤ (Z.putObj (w.heap.size + 1) o).heap.size ∧ ∀ k, recT w.heap.size T k → w.heap.size ≤ k ∧ k < (Z.putObj (w.heap.size + 1) o).heap.size := fun T Z st pe h1 hT h2 h3 hTZ o => by
      refine ⟨Turn.putObj _ (.inr (.inr rfl)), (World.putObj_heap_other (by omega)).trans h2, by simp; omega, fun k hk => ?_⟩
      have hsz : (Z.putObj (w.heap.size + 1) o).heap.size = Z.heap.size := by simp
      rw [hsz]
      rcases hk with hk | hk | hk
      · exact ⟨by have := hT k hk; omega, (hTZ k hk).2⟩
      · omega
      · omega
    rintro e Z ⟨⟨v, rfl⟩, T, pre, hZ, hTZ, (⟨hF, k0, kT, k1, k2, k3⟩ | ⟨k0, kT, c, k1, k2, k3⟩)⟩
    · obtain ⟨e1, e2, e3, e4⟩ := hend T Z _ _ k2 kT k3 k0 hTZ (.loop { rec' .ready none with state := .exhausted })
      exact ⟨none, _, run_endLoop k2 (by intro h; cases h), hdone (recT w.heap.size T) pre _ e3 e4 (.inr (.inl rfl)) hF (hI _ _ _ _ _ k1 e1 (fun _ h => .inl h)) e2⟩
    · obtain ⟨e1, e2, e3, e4⟩ := hend T Z _ _ k2 kT k3 k0 hTZ (.loop { rec' .done (some c) with state := .exhausted })
      exact ⟨some c, _, run_endLoop k2 (by intro h; cases h), hstop (recT w.heap.size T) c pre _ e3 e4 (.inr (.inl rfl)) (hIx _ _ _ _ _ _ k1 e1 (fun _ h => .inl h)) e2⟩
end Go.Proofs.YthlelcmifolnfaaGreatDoor
