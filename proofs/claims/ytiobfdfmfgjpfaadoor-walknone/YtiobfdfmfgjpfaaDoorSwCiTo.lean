import Derived.Test.YtiobfdfmfgjpfaaDoorSwIgsTo
import Derived.Test.YtiobfdfmfgjpfaaDoorSwIsTo
import Derived.OwnWalk
import Derived.Test.YtiobfdfmfgjpfaaDoorSwP2To
import Derived.Test.YtiobfdfmfgjpfaaDoorRnvTo
import Derived.BigQuiet
import Derived.Deep.QuietTactic
import Derived.WalkSmall
import Derived.MapKept
/-
  Which blocks a map's calls leave as they were, by the kind that stands in them; a row of texts that is only read; a walk in memory; what Next does to what is ahead.
-/
namespace Go.Proofs.YtiobfdfmfgjpfaaDoor
open Go.RowKit Go.Shelf

/-- Blocks of all kinds but those of T are as they were. -/
def Kinds (T : List TypeId) (X Y : World) : Prop := ∀ (t : TypeId) (k : Nat) (c : Array Value) (f : Nat × Nat), t ∉ T → X.heap[k]? = some (Obj.cells c t f) → Y.heap[k]? = some (Obj.cells c t f)
theorem Kinds.refl (T : List TypeId) (X : World) : Kinds T X X := fun _ _ _ _ _ h => h
theorem Kinds.trans {T : List TypeId} {X Y Z : World} (h : Kinds T X Y) (k : Kinds T Y Z) : Kinds T X Z := fun t i c f ht hi => k t i c f ht (h t i c f ht hi)
theorem Kinds.below {T : List TypeId} {X Y : World} (h : Below X.heap.size X Y) : Kinds T X Y := fun _ k _ _ _ hk => (h.block k (Array.getElem?_eq_some_iff.1 hk).1).trans hk
theorem Kinds.mono {T T' : List TypeId} {X Y : World} (h : Kinds T X Y) (hs : ∀ t ∈ T, t ∈ T') : Kinds T' X Y := fun t k c f ht hk => h t k c f (fun hm => ht (hs t hm)) hk
theorem Kinds.of {tM tS : TypeId} {X Y : World} {b bw bs : Nat} {M : SM} (hL : Lies tM tS X b bw bs M) (hb : But [b, bw, bs] X Y) : Kinds [tM, 22, tS] X Y := by
  intro t k c f ht hk
  refine (hb.block k (Array.getElem?_eq_some_iff.1 hk).1 fun hm => ?_).trans hk
  obtain ⟨cw, cs, h1, h2, h3⟩ := hL.row
  simp only [List.mem_cons, List.not_mem_nil, or_false, not_or] at hm ht
  rcases hm with rfl | rfl | rfl
  · rw [hk] at h1
    simp only [Option.some.injEq, Obj.cells.injEq] at h1
    exact ht.1 h1.2.1
  · rcases h2.2 with ⟨hn, _⟩ | ⟨g, cap, cur, e, _, hg, _⟩
    · cases hn
    · simp only [Value.slice.injEq, Option.some.injEq, Addr.mk.injEq] at e
      obtain ⟨⟨rfl, _, _⟩, _, _⟩ := e
      rw [hk] at hg
      simp only [Option.some.injEq, Obj.cells.injEq] at hg
      exact ht.2.1 hg.2.1
  · rcases h3.2 with ⟨hn, _⟩ | ⟨g, cap, cur, e, _, hg, _⟩
    · cases hn
    · simp only [Value.slice.injEq, Option.some.injEq, Addr.mk.injEq] at e
      obtain ⟨⟨rfl, _, _⟩, _, _⟩ := e
      rw [hk] at hg
      simp only [Option.some.injEq, Obj.cells.injEq] at hg
      exact ht.2.2 hg.2.1
/-- A block whose kind is not one of a map's is apart from the map. -/
theorem Lies.apart {tM tS : TypeId} {X : World} {b bw bs : Nat} {M : SM} (hL : Lies tM tS X b bw bs M) {t : TypeId} {k : Nat} {c : Array Value} {f : Nat × Nat} (ht : t ∉ [tM, 22, tS]) (hk : X.heap[k]? = some (Obj.cells c t f)) : k ∉ [b, bw, bs] := by
  intro hm
  obtain ⟨cw, cs, h1, h2, h3⟩ := hL.row
  simp only [List.mem_cons, List.not_mem_nil, or_false, not_or] at hm ht
  rcases hm with rfl | rfl | rfl
  · rw [hk] at h1
    simp only [Option.some.injEq, Obj.cells.injEq] at h1
    exact ht.1 h1.2.1
  · rcases h2.2 with ⟨hn, _⟩ | ⟨g, cap, cur, e, _, hg, _⟩
    · cases hn
    · simp only [Value.slice.injEq, Option.some.injEq, Addr.mk.injEq] at e
      obtain ⟨⟨rfl, _, _⟩, _, _⟩ := e
      rw [hk] at hg
      simp only [Option.some.injEq, Obj.cells.injEq] at hg
      exact ht.2.1 hg.2.1
  · rcases h3.2 with ⟨hn, _⟩ | ⟨g, cap, cur, e, _, hg, _⟩
    · cases hn
    · simp only [Value.slice.injEq, Option.some.injEq, Addr.mk.injEq] at e
      obtain ⟨⟨rfl, _, _⟩, _, _⟩ := e
      rw [hk] at hg
      simp only [Option.some.injEq, Obj.cells.injEq] at hg
      exact ht.2.2 hg.2.1
/-- A block of another kind is turned: the map lies as it lay. -/
theorem Lies.other {tM tS : TypeId} {X Y : World} {b bw bs : Nat} {M : SM} (hL : Lies tM tS X b bw bs M) {t : TypeId} {k : Nat} {c : Array Value} {f : Nat × Nat} (ht : t ∉ [tM, 22, tS]) (hk : X.heap[k]? = some (Obj.cells c t f)) (hb : But [k] X Y) : Lies tM tS Y b bw bs M := by
  have hn := hL.apart ht hk
  simp only [List.mem_cons, List.not_mem_nil, or_false, not_or] at hn
  exact hL.but hb (by simp; omega) (by simp; omega) (by simp; omega)
theorem Kinds.one {X Y : World} {t : TypeId} {k : Nat} {c : Array Value} {f : Nat × Nat} (hk : X.heap[k]? = some (Obj.cells c t f)) (hb : But [k] X Y) : Kinds [t] X Y := by
  intro t' k' c' f' ht hk'
  refine (hb.block k' (Array.getElem?_eq_some_iff.1 hk').1 fun hm => ?_).trans hk'
  simp only [List.mem_cons, List.not_mem_nil, or_false] at hm ht
  subst hm
  rw [hk] at hk'
  simp only [Option.some.injEq, Obj.cells.injEq] at hk'
  exact ht hk'.2.1.symm

/-- A row of texts, in a block of its kind. -/
def RowT (w : World) (v : Value) (xs : List ByteArray) : Prop :=
  ∃ p c, v = .slice p xs.length c ∧ xs.length ≤ c ∧ (p = none → c = 0) ∧
    (0 < xs.length → ∃ g o cur f, p = some ⟨g, o, none⟩ ∧ w.heap[g]? = some (Obj.cells cur 9 f) ∧ ∀ i, i < xs.length → w.cell? ⟨g, o + i, none⟩ = some (.string (xs.getD i ByteArray.empty)))
theorem RowT.has {w : World} {v : Value} {xs : List ByteArray} (h : RowT w v xs) : HasT w v xs := by
  obtain ⟨p, c, rfl, h1, h2, h3⟩ := h
  refine ⟨p, c, rfl, h1, h2, fun h0 => ?_⟩
  obtain ⟨g, o, cur, f, rfl, hg, hc⟩ := h3 h0
  exact ⟨g, o, rfl, (Array.getElem?_eq_some_iff.1 hg).1, hc⟩
theorem RowT.kinds {T : List TypeId} {w w' : World} {v : Value} {xs : List ByteArray} (h : RowT w v xs) (hk : Kinds T w w') (hT : 9 ∉ T) : RowT w' v xs := by
  obtain ⟨p, c, rfl, h1, h2, h3⟩ := h
  refine ⟨p, c, rfl, h1, h2, fun h0 => ?_⟩
  obtain ⟨g, o, cur, f, rfl, hg, hc⟩ := h3 h0
  have hg' := hk _ g cur f hT hg
  exact ⟨g, o, cur, f, rfl, hg', fun i hi => (World.cell?_of_block (a := ⟨g, o + i, none⟩) (hg'.trans hg.symm)).trans (hc i hi)⟩
theorem RowT.below {w w' : World} {v : Value} {xs : List ByteArray} (h : RowT w v xs) (hb : Below w.heap.size w w') : RowT w' v xs := h.kinds (T := []) (Kinds.below hb) (by simp)
theorem RowT.nil0 (w : World) : RowT w (.slice none 0 0) [] := ⟨_, _, rfl, Nat.le_refl _, fun _ => rfl, fun h => by simp at h⟩
theorem RowT.of_owns {w : World} {B : Nat} {v : Value} {xs : List ByteArray} (h : OwnsT w B v xs) : RowT w v xs := by
  obtain ⟨p, c, hv, h1, h2, h3⟩ := h.has
  refine ⟨p, c, hv, h1, h2, fun h0 => ?_⟩
  obtain ⟨b, o, rfl, hb, hc⟩ := h3 h0
  rcases h.2 with ⟨rfl, hn⟩ | ⟨g, cap, cur, rfl, hB, hg, _⟩
  · omega
  · simp only [Value.slice.injEq, Option.some.injEq, Addr.mk.injEq] at hv
    obtain ⟨⟨rfl, rfl, _⟩, _, _⟩ := hv
    exact ⟨g, 0, cur, _, rfl, hg, hc⟩
/-- The row behind its first text. -/
theorem RowT.tail {w : World} {p : Option Addr} {n c : Nat} {x : ByteArray} {xs : List ByteArray} (h : RowT w (.slice p n c) (x :: xs)) : ∃ (g o : Nat) (q : Addr), p = some ⟨g, o, none⟩ ∧ n = xs.length + 1 ∧ xs.length + 1 ≤ c ∧ w.cell? ⟨g, o, none⟩ = some (.string x) ∧ (∃ cur f, w.heap[g]? = some (Obj.cells cur 9 f)) ∧
    (if c = 1 then some (⟨g, o, none⟩ : Addr) else some ⟨g, o + 1, none⟩) = some q ∧ RowT w (.slice (some q) xs.length (c - 1)) xs := by
  obtain ⟨p', c', e, h1, h2, h3⟩ := h
  simp only [Value.slice.injEq, List.length_cons] at e
  obtain ⟨rfl, rfl, rfl⟩ := e
  obtain ⟨g, o, cur, f, rfl, hg, hc⟩ := h3 (by simp)
  have hc0 := hc 0 (by simp)
  rw [Nat.add_zero] at hc0
  rw [List.length_cons] at h1
  have hrest : ∀ q : Addr, xs = [] ∨ q = ⟨g, o + 1, none⟩ → RowT w (.slice (some q) xs.length (c - 1)) xs := by
    intro q hq
    refine ⟨some q, c - 1, rfl, by omega, (fun h => by cases h), fun h0 => ?_⟩
    rcases hq with rfl | rfl
    · simp at h0
    · refine ⟨g, o + 1, cur, f, rfl, hg, fun i hi => ?_⟩
      have := hc (i + 1) (by simp; omega)
      rw [show o + (i + 1) = o + 1 + i by omega] at this
      rw [this]
      rfl
  by_cases hcc : c = 1
  · have hx : xs = [] := List.eq_nil_of_length_eq_zero (by omega)
    exact ⟨g, o, ⟨g, o, none⟩, rfl, rfl, h1, hc0, ⟨cur, f, hg⟩, by rw [if_pos hcc], hrest _ (.inl hx)⟩
  · exact ⟨g, o, ⟨g, o + 1, none⟩, rfl, rfl, h1, hc0, ⟨cur, f, hg⟩, by rw [if_neg hcc], hrest _ (.inr rfl)⟩

/-- A walk in block x, over the map m; what is ahead reads as xs. -/
def Wk (tW : TypeId) (w : World) (x : Nat) (m : Value) (xs : List ByteArray) : Prop := ∃ v, w.heap[x]? = some (Obj.cells #[m, v] tW (0, 0)) ∧ RowT w v xs
theorem Wk.kinds {T : List TypeId} {tW : TypeId} {w w' : World} {x : Nat} {m : Value} {xs : List ByteArray} (h : Wk tW w x m xs) (hk : Kinds T w w') (hT : 9 ∉ T) (hW : tW ∉ T) : Wk tW w' x m xs := by
  obtain ⟨v, h1, h2⟩ := h
  exact ⟨v, hk _ _ _ _ hW h1, h2.kinds hk hT⟩
theorem Wk.below {tW : TypeId} {w w' : World} {x : Nat} {m : Value} {xs : List ByteArray} (h : Wk tW w x m xs) (hb : Below w.heap.size w w') : Wk tW w' x m xs := h.kinds (T := []) (Kinds.below hb) (by simp) (by simp)
theorem Wk.cells {tW : TypeId} {w : World} {x : Nat} {m : Value} {xs : List ByteArray} (h : Wk tW w x m xs) : ∃ v, w.cell? ⟨x, 0, none⟩ = some m ∧ w.cell? ⟨x, 1, none⟩ = some v ∧ w.frozen? ⟨x, 1, none⟩ = false ∧ RowT w v xs ∧ w.heap[x]? = some (Obj.cells #[m, v] tW (0, 0)) := by
  obtain ⟨v, h1, h2⟩ := h
  refine ⟨v, ?_, ?_, ?_, h2, h1⟩
  · unfold World.cell?; dsimp only; rw [h1]; rfl
  · unfold World.cell?; dsimp only; rw [h1]; rfl
  · simp [World.frozen?, h1]
theorem Wk.set {tW : TypeId} {w : World} {x : Nat} {m v v' : Value} {xs : List ByteArray} (hW : tW ≠ 9) (h1 : w.heap[x]? = some (Obj.cells #[m, v] tW (0, 0))) (h2 : RowT w v' xs) : Wk tW (w.setCell ⟨x, 1, none⟩ v') x m xs := by
  refine ⟨v', ?_, ?_⟩
  · simp [World.setCell, Array.getElem?_modify, h1]
  · exact h2.kinds (T := [tW]) (Kinds.one h1 ((But.refl [x] w).setCell (.inl (by simp)) _)) (by simpa using Ne.symm hW)

/-- What is ahead, from the next key on that is there. -/
def SM.skip (M : SM) : List ByteArray → List ByteArray
  | [] => []
  | k :: r => if (M.find k).isSome then k :: r else M.skip r
theorem skip_here {M : SM} {k : ByteArray} {r : List ByteArray} (h : (M.find k).isSome = true) : M.skip (k :: r) = k :: r := by unfold SM.skip; rw [if_pos h]
theorem skip_gone {M : SM} {k : ByteArray} {r : List ByteArray} (h : (M.find k).isSome = false) : M.skip (k :: r) = M.skip r := by rw [SM.skip, if_neg (by rw [h]; decide)]
theorem get_is (M : SM) (k : ByteArray) (z : Value) : (M.get k z).2 = (M.find k).isSome := by unfold SM.get; cases M.find k <;> rfl
theorem get_not {M : SM} {k : ByteArray} {z : Value} (h : (M.find k).isSome = false) : M.get k z = (z, false) := by
  unfold SM.get
  cases hf : M.find k with
  | none => rfl
  | some p => rw [hf] at h; cases h
/-- The keys that are passed over, and the first that is there. -/
theorem skip_split (M : SM) : ∀ xs : List ByteArray, ∃ pre, xs = pre ++ M.skip xs ∧ (∀ k ∈ pre, (M.find k).isSome = false) ∧ ∀ k r, M.skip xs = k :: r → (M.find k).isSome = true
  | [] => ⟨[], rfl, (fun _ h => by cases h), fun k r h => by cases h⟩
  | x :: xs => by
    by_cases h : (M.find x).isSome = true
    · refine ⟨[], by rw [skip_here h]; rfl, (fun _ h => by cases h), fun k r e => ?_⟩
      rw [skip_here h] at e
      cases e
      exact h
    · have h' : (M.find x).isSome = false := by simpa using h
      obtain ⟨pre, e, hp, hk⟩ := skip_split M xs
      refine ⟨x :: pre, by rw [skip_gone h', List.cons_append, ← e], fun k hm => ?_, fun k r e' => hk k r (by rw [skip_gone h'] at e'; exact e')⟩
      rcases List.mem_cons.1 hm with rfl | hm
      · exact h'
      · exact hp k hm
def headK (l : List ByteArray) : ByteArray := l.headD ByteArray.empty
/-- What Next tells: the key, its value, whether there is one. -/
def SM.nk (M : SM) (xs : List ByteArray) : ByteArray := (M.skip xs).headD ⟨#[]⟩
def SM.nv (M : SM) (xs : List ByteArray) : ByteArray := match M.skip xs with | [] => ⟨#[]⟩ | k :: _ => valK M k
def SM.nb (M : SM) (xs : List ByteArray) : Bool := match M.skip xs with | [] => false | _ :: _ => true
end Go.Proofs.YtiobfdfmfgjpfaaDoor

/-
  Contracts: Walk[string].Left, walk.New[string], Walk[string].Next.
-/
namespace Go.Proofs.YtiobfdfmfgjpfaaDoor
open Go.RowKit Go.Shelf

theorem left_any_s (x : Nat) (m : Value) (xs : List ByteArray) (w : World) (h : Wk 89 w x m xs) : Calls Tryd.prog 19 #[.pointer (some ⟨x, 0, none⟩)] w fun e w' => e = .returned (.int .i64 (xs.length : Nat)) ∧ w' = w := by
  obtain ⟨v, c0, c1, f1, ⟨p, c, rfl, h1, h2, h3⟩, _⟩ := h.cells
  clear h3
  go_enter Tryd.func19, Tryd.ntmps19
  go_wp2
  go_ret
  exact ⟨rfl, rfl⟩

theorem wk_new (w : World) (m v : Value) (t : TypeId) (xs : List ByteArray) (h : RowT w v xs) : Wk t (w.alloc (.cells #[m, v] t)) w.heap.size m xs := ⟨v, heap_alloc_new _ _, h.below ((Below.refl _ _).alloc (Nat.le_refl _) _)⟩

set_option maxHeartbeats 1000000 in
theorem wnew_any_s (b bw bs : Nat) (M : SM) (w : World) (hT : Tab w) (h : Lies 81 77 w b bw bs M) (hI : M.Inv IsV_s) :
    Calls Tryd.prog 13 #[.pointer (some ⟨b, 0, none⟩)] w fun e w' => ∃ x, e = .returned (.pointer (some ⟨x, 0, none⟩)) ∧ Wk 89 w' x (.pointer (some ⟨b, 0, none⟩)) M.keys ∧ w.heap.size ≤ x ∧ x < w'.heap.size ∧ Below w.heap.size w w' := by
  have hk := keys_any_s b bw bs M w hT h hI.fit (full_n hI)
  have hkl := keys_len hI
  go_enter Tryd.func13, Tryd.ntmps13
  go_wp2_with fail
  refine hk.mono ?_
  rintro e w1 ⟨g, rfl, hg, ho, hb⟩
  have hr : RowT w1 (.slice (some ⟨g, 0, none⟩) M.n M.n) M.keys := RowT.of_owns (B := 0) (by unfold OwnsT; rw [hkl]; exact ho)
  have hw := wk_new w1 (.pointer (some ⟨b, 0, none⟩)) (.slice (some ⟨g, 0, none⟩) M.n M.n) 89 M.keys hr
  clear hk ho
  go_wp2
  go_ret
  exact ⟨_, rfl, hw, hb.size, by simp, hb.alloc hb.size _⟩

/-- How many are ahead of the walk in block x. -/
def aheadN (x : Nat) (w : World) : Nat := match w.cell? ⟨x, 1, none⟩ with | some (.slice _ n _) => n | _ => 0
theorem aheadN_is {tW : TypeId} {w : World} {x : Nat} {m : Value} {xs : List ByteArray} (h : Wk tW w x m xs) : aheadN x w = xs.length := by
  obtain ⟨v, _, c1, _, ⟨p, c, rfl, _⟩, _⟩ := h.cells
  unfold aheadN
  rw [c1]

set_option maxRecDepth 10000 in
set_option maxHeartbeats 2000000 in
theorem wnext_any_s (x b bw bs : Nat) (M : SM) (xs : List ByteArray) (w : World) (hT : Tab w) (h : Lies 81 77 w b bw bs M) (hI : M.Inv IsV_s) (hs : ∀ k ∈ xs, k.size < 140737488355328) (hx0 : 0 < x) (hW : Wk 89 w x (.pointer (some ⟨b, 0, none⟩)) xs) :
    Calls Tryd.prog 17 #[.pointer (some ⟨x, 0, none⟩)] w fun e w' => e = .returned (.tuple #[.string (M.nk xs), .string (M.nv xs), .bool (M.nb xs)]) ∧ Wk 89 w' x (.pointer (some ⟨b, 0, none⟩)) (M.skip xs).tail ∧ But [x] w w' := by
  obtain ⟨_, hW1, _⟩ := id hW
  go_enter Tryd.func17, Tryd.ntmps17
  go_wp2
  go_loopw [3] (fun v wr => v = .string ⟨#[]⟩ ∧ ∃ ys, (∃ pre, xs = pre ++ ys) ∧ Hid (M.skip xs = M.skip ys) ∧ Wk 89 wr x (.pointer (some ⟨b, 0, none⟩)) ys ∧ But [x] w wr) (fun _ wr => aheadN x wr)
  case atStart => exact ⟨rfl, xs, ⟨[], rfl⟩, rfl, hW, But.refl _ _⟩
  case round =>
    obtain ⟨rfl, ys, ⟨pre, hpre⟩, hsk, hWr, hbr⟩ := hrel
    have hleft := left_any_s x _ ys wr hWr
    cases ys with
    | nil =>
      clear hpre hs
      go_wp2_with fail
      refine same_mono hleft ?_
      go_wp2
      go_ret3
      refine ⟨?_, by rw [hsk.out]; exact hWr, hbr⟩
      unfold SM.nk SM.nv SM.nb
      rw [hsk.out]
      rfl
    | cons k r =>
      have hks : k.size < 140737488355328 := hs k (by rw [hpre]; simp)
      obtain ⟨v, c0, c1, f1, hrow, hob⟩ := hWr.cells
      obtain ⟨p, c, rfl, _⟩ := id hrow
      obtain ⟨g, o, q, rfl, hn, hc, ck, ⟨cur, f, hg⟩, hif, htail⟩ := hrow.tail
      have hset := Wk.set (m := .pointer (some ⟨b, 0, none⟩)) (by decide) hob htail
      have hbs : But [x] w (wr.setCell ⟨x, 1, none⟩ (.slice (some q) r.length (c - 1))) := hbr.setCell (.inl (by simp)) _
      have hL2 := h.other (by decide) hW1 hbs
      have hT2 := hbs.tab hT (by simp; omega)
      have hget := get_map_s b bw bs M k _ hT2 hL2 hI.fit hI.typed hks
      rw [get_val hI, get_is] at hget
      rw [List.length_cons] at hleft
      have hm1 := aheadN_is hWr
      have hm2 := aheadN_is hset
      clear hW1 hob hrow
      go_wp2_with fail
      refine same_mono hleft ?_
      go_wp2_with fail
      refine hget.mono ?_
      rintro e w2 ⟨rfl, hb2⟩
      have hW2 := hset.below hb2
      have hB2 : But [x] w w2 := hbs.trans (But.of_below hb2 (Nat.le_refl _))
      have hm3 := aheadN_is hW2
      clear hget hb2 hset hbs hL2 hT2 htail hif ck hg c1 c0 f1 hWr
      cases hfd : (M.find k).isSome with
      | true =>
        have hsk2 : Hid (M.skip xs = k :: r) := by show _ = _; rw [hsk.out, skip_here hfd]
        go_wp2
        go_ret3
        refine ⟨?_, by rw [hsk2.out]; exact hW2, hB2⟩
        unfold SM.nk SM.nv SM.nb
        rw [hsk2.out]
        rfl
      | false =>
        have hsk2 : Hid (M.skip xs = M.skip r) := by show _ = _; rw [hsk.out, skip_gone hfd]
        have hvz : valK M k = ⟨#[]⟩ := by unfold valK; rw [get_not hfd]
        rw [hvz]
        go_wp2
        go_roundw
        case rel => exact ⟨rfl, r, ⟨pre ++ [k], by rw [hpre]; simp⟩, hsk2, hW2, hB2⟩
        case measure => rw [hm1, hm3]; simp
end Go.Proofs.YtiobfdfmfgjpfaaDoor

/-
  Contracts: Map[int].made, hash, find.
-/
namespace Go.Proofs.YtiobfdfmfgjpfaaDoor
open Go.RowKit Go.Shelf

theorem made_nil_i (w : World) : Calls Tryd.prog 67 #[.pointer none] w fun e w' => e = .returned (.bool false) ∧ w' = w := by
  go_enter Tryd.func67, Tryd.ntmps67
  go_wp2
  go_ret
  exact ⟨rfl, rfl⟩

theorem made_any_i (b n c : Nat) (p : Option Addr) (w : World) (h : w.cell? ⟨b, 2, none⟩ = some (.slice p n c)) : Calls Tryd.prog 67 #[.pointer (some ⟨b, 0, none⟩)] w fun e w' => e = .returned (.bool (decide (0 < n))) ∧ w' = w := by
  go_enter Tryd.func67, Tryd.ntmps67
  go_wp2
  go_ret
  refine ⟨?_, rfl⟩
  simp

theorem hash_any_i (b bw bs : Nat) (M : SM) (key : ByteArray) (w : World) (h : Lies 111 113 w b bw bs M) (hk : key.size < 140737488355328) :
    Calls Tryd.prog 81 #[.pointer (some ⟨b, 0, none⟩), .string key] w fun e w' => e = .returned (partsV (M.hash key)) ∧ Below w.heap.size w w' := by
  obtain ⟨cw, cs, c0, c1, c2, c3, c4, c5, _, _⟩ := h.cells
  have hs := fun W : World => sum_any M.k0 M.k1 key W hk
  have hw := M.wd_hash key
  unfold SM.hash at hw ⊢
  generalize sumI M.k0 M.k1 (byt key) key.size = x at *
  go_enter Tryd.func81, Tryd.ntmps81
  go_wp2_with fail
  refine (hs _).mono ?_
  rintro e w1 ⟨rfl, hb⟩
  go_wp2_with fail
  refine same_mono (split_any x _ hw) ?_
  unfold partsV
  go_wp2
  go_ret2
  exact ⟨rfl, hb⟩

/-- The hash, parted: where to look, and what stands there. -/
theorem hash_at_i (b bw bs : Nat) (M : SM) (key : ByteArray) (hF : M.Fit) (hk : key.size < 140737488355328) : ∃ H : Int, 0 ≤ H ∧ H < 18446744073709551616 ∧ grpL H M.ws.length = (M.gs key).map (fun g : Nat => (g : Int)) ∧
    ∀ w, Lies 111 113 w b bw bs M →
    Calls Tryd.prog 81 #[.pointer (some ⟨b, 0, none⟩), .string key] w fun e w' => e = .returned (.tuple #[.int .u64 H, .int .u8 (M.what key : Nat)]) ∧ Below w.heap.size w w' := by
  have hw := M.wd_hash key
  refine ⟨M.hash key / 128, ?_, ?_, M.gs_eq hF key, fun w h => ?_⟩
  · have := hw.1
    generalize M.hash key = x at *
    omega
  · have := hw.2
    generalize M.hash key = x at *
    omega
  · have := hash_any_i b bw bs M key w h hk
    unfold partsV at this
    rw [← M.what_eq key] at this
    exact this

set_option maxRecDepth 100000 in
set_option maxHeartbeats 4000000 in
theorem find_any_i (b bw bs : Nat) (M : SM) (key : ByteArray) (w : World) (hT : Tab w) (h : Lies 111 113 w b bw bs M) (hF : M.Fit) (hk : key.size < 140737488355328) :
    Calls Tryd.prog 69 #[.pointer (some ⟨b, 0, none⟩), .string key] w fun e w' => e = .returned (.int .i64 (match M.find key with | some p => (p : Int) | none => -1)) ∧ Below w.heap.size w w' := by
  obtain ⟨cw, cs, c0, c1, c2, c3, c4, c5, hcw, hcs⟩ := h.cells
  have hr := good_range hF.good
  have hlt := h.lt
  obtain ⟨H, hH0, hH1, hgs, hhash⟩ := hash_at_i b bw bs M key hF hk
  obtain ⟨r, hres⟩ : ∃ r : Int, (match M.find key with | some p => (p : Int) | none => -1) = r := ⟨_, rfl⟩
  rw [hres]
  refine (callsIn_wide (n := 9)).1 ?_
  refine callsIn_of_wp_marks Tryd.func69 rfl trivial ?_ rfl
  simp only [Tryd.ntmps69, List.size_toArray, List.length_cons, List.length_nil, Nat.reduceAdd, Nat.reduceSub, Array.replicate_succ, Array.replicate_zero, List.push_toArray, List.append_toArray, List.nil_append, List.cons_append]
  have q0 := Boxed.new w 61 (.pointer (some ⟨b, 0, none⟩))
  have q1 := Boxed.new (w.alloc (.cells #[.pointer (some ⟨b, 0, none⟩)] 61)) 9 (.string key)
  rw [World.size_alloc] at q1
  replace q0 := q0.alloc (.cells #[.string key] 9)
  have hBq : Below w.heap.size w ((w.alloc (.cells #[.pointer (some ⟨b, 0, none⟩)] 61)).alloc (.cells #[.string key] 9)) := ((Below.refl _ w).alloc (Nat.le_refl _) _).alloc (by simp) _
  have hzq : ((w.alloc (.cells #[.pointer (some ⟨b, 0, none⟩)] 61)).alloc (.cells #[.string key] 9)).heap.size = w.heap.size + 2 := by simp
  have k2 := (hBq.cell (p := ⟨b, 2, none⟩) hlt.1).trans c2
  generalize hX0 : (w.alloc (.cells #[.pointer (some ⟨b, 0, none⟩)] 61)).alloc (.cells #[.string key] 9) = X0 at q0 q1 hBq hzq k2
  have e0 := q0.cell
  have e1 := q1.cell
  have hpos : decide (0 < M.ws.length) = true := decide_eq_true (by omega)
  have hmade := made_any_i b _ _ _ X0 k2
  rw [hpos] at hmade
  gi_wp2
  refine scope_wide ?_
  gi_wp2_with (refine ⟨trivial, ?_⟩; gi_at_call 67; refine (callsIn_wide.2 hmade).mono ?_; rintro e w' ⟨rfl, rfl⟩)
  refine ⟨trivial, ?_⟩
  refine (callsIn_wide.2 (hhash _ (h.below hBq (Nat.le_refl _)))).mono ?_
  rintro e W1 ⟨rfl, hB1⟩
  replace q0 : Boxed W1 _ _ _ := (hB1.block _ (by omega)).trans q0
  replace q1 : Boxed W1 _ _ _ := (hB1.block _ (by omega)).trans q1
  have hz1 : w.heap.size + 2 ≤ W1.heap.size := by have := hB1.size; omega
  replace hB1 : Below w.heap.size w W1 := hBq.trans (hB1.mono (by omega))
  clear hmade k2 e0 e1 hBq hzq hX0 hhash w'
  have e0 := q0.cell
  have e1 := q1.cell
  gi_wp2
  refine wpIn_label ?_
  rename_i hK
  refine hK _ _ ?_
  clear hK
  have q2 := Boxed.new W1 5 (.int .u8 (M.what key : Nat))
  have q3 := Boxed.new (W1.alloc (.cells #[.int .u8 (M.what key : Nat)] 5)) 3 (.int .i64 (-1))
  rw [World.size_alloc] at q3
  replace q0 := (q0.alloc (.cells #[.int .u8 (M.what key : Nat)] 5)).alloc (.cells #[.int .i64 (-1)] 3)
  replace q1 := (q1.alloc (.cells #[.int .u8 (M.what key : Nat)] 5)).alloc (.cells #[.int .i64 (-1)] 3)
  replace q2 := q2.alloc (.cells #[.int .i64 (-1)] 3)
  have hB2 : Below w.heap.size w ((W1.alloc (.cells #[.int .u8 (M.what key : Nat)] 5)).alloc (.cells #[.int .i64 (-1)] 3)) := (hB1.alloc (by omega) _).alloc (by simp; omega) _
  have hz2 : ((W1.alloc (.cells #[.int .u8 (M.what key : Nat)] 5)).alloc (.cells #[.int .i64 (-1)] 3)).heap.size = W1.heap.size + 2 := by simp
  generalize (W1.alloc (.cells #[.int .u8 (M.what key : Nat)] 5)).alloc (.cells #[.int .i64 (-1)] 3) = X2 at *
  generalize W1.heap.size = b2 at *
  clear e0 e1 hB1
  have e0 := q0.cell
  have k2 := (hB2.cell (p := ⟨b, 2, none⟩) hlt.1).trans c2
  gi_wp2_with (refine ⟨trivial, ?_⟩; gi_at_call 53; refine (callsIn_wide.2 (seq_any H (M.ws.length : Int) _ (by omega) (by omega))).mono ?_; rw [hz2]; rintro e W5 ⟨rfl, hB5, hz5, s0, s1, s2⟩)
  replace q0 : Boxed W5 _ _ _ := (hB5.block _ (by omega)).trans q0
  replace q1 : Boxed W5 _ _ _ := (hB5.block _ (by omega)).trans q1
  replace q2 : Boxed W5 _ _ _ := (hB5.block _ (by omega)).trans q2
  replace q3 : Boxed W5 _ _ _ := (hB5.block _ (by omega)).trans q3
  replace hB2 := hB2.trans (hB5.mono (by omega))
  clear hB5 e0 k2 hz2 X2
  refine range_seqV (m := 7) (gf := 72) (fb := #[]) (lb := #[.pointer (some ⟨b2 + 2 + 2, 0, none⟩), .pointer (some ⟨b2 + 2, 0, none⟩), .pointer (some ⟨b2 + 2 + 1, 0, none⟩)]) rfl (enters_of Tryd.func72 (by kernel_rfl) rfl)
    (seq1_seq (b2 + 2) H (M.ws.length : Int) hH0 hH1 (by omega) (by omega) W5 (by omega) s0 s1 s2).seqV (by omega) (fun _ => rfl)
    (fun B pre X => Boxed X w.heap.size 61 (.pointer (some ⟨b, 0, none⟩)) ∧ Boxed X (w.heap.size + 1) 9 (.string key) ∧ Boxed X b2 5 (.int .u8 (M.what key : Nat)) ∧ Boxed X (b2 + 1) 3 (.int .i64 (-1)) ∧ Below w.heap.size w X ∧
      ∀ rest, (M.gs key).map (fun g : Nat => (g : Int)) = pre ++ rest → M.find key = M.findG key (rest.map Int.toNat))
    (fun B c pre X => c = .exit 0 ∧ Boxed X (b2 + 1) 3 (.int .i64 r) ∧ Below w.heap.size w X)
    ?hI ?hIx ?h0 ?ab ?done ?stop
  case hI =>
    rintro B pre X Y hB ⟨d0, d1, d2, d3, d4, d5⟩ ho
    exact ⟨ho.box d0 (.inl (by omega)), ho.box d1 (.inl (by omega)), ho.box d2 (.inl (by omega)), ho.box d3 (.inl (by omega)), d4.trans (ho.below (by omega) d4.size), d5⟩
  case hIx =>
    rintro B c pre X Y hB ⟨rfl, d1, d2⟩ ho
    exact ⟨rfl, ho.box d1 (.inl (by omega)), d2.trans (ho.below (by omega) d2.size)⟩
  case h0 =>
    intro X hX _
    refine ⟨(hX.block _ (by omega)).trans q0, (hX.block _ (by omega)).trans q1, (hX.block _ (by omega)).trans q2, (hX.block _ (by omega)).trans q3, hB2.trans (hX.mono (by omega)), fun rest hrest => ?_⟩
    rw [List.nil_append] at hrest
    rw [← hrest, List.map_map]
    unfold SM.find
    congr 1
    exact (List.map_id _).symm
  case ab =>
    apply Exists.intro
    constructor
    · intro l x X K hK
      have hsem := @Oper.semAt_some l
      gi_wp2
      exact hK
    · rintro l B pre x X hB hBX hpre ⟨d0, d1, d2, d3, d4, d5⟩
      have hsem := @Oper.semAt_some l
      rw [hgs] at hpre
      obtain ⟨gx, hgx, rfl⟩ := List.mem_map.1 (hpre.subset (List.mem_append_right _ (List.mem_singleton.2 rfl)))
      have hgl := SM.gs_lt hF key gx hgx
      obtain ⟨rest, hrest⟩ := hpre
      have hfind : Hid (M.find key = M.findG key (gx :: rest.map Int.toNat)) := by
        have := d5 ((gx : Int) :: rest) (by rw [← hrest]; simp)
        rw [List.map_cons, Int.toNat_natCast] at this
        exact this
      have hd6 : Hid (∀ rest' : List Int, (M.gs key).map (fun g : Nat => (g : Int)) = (pre ++ [(gx : Int)]) ++ rest' → rest' = rest) := fun rest' he => by
        rw [← hrest] at he
        exact (List.append_cancel_left he).symm
      clear hrest d5
      have hL := h.below d4 (Nat.le_refl _)
      have hTX : Tab X := hT.below d4 (by have := hT.1; omega)
      obtain ⟨dw, ds, _, _, k2, k3, _, _, hdw, hds⟩ := hL.cells
      have kw := hL.word gx hgl
      have hwl := hF.words gx hgl
      have hhit : Hid (M.hit key gx = (slotsL (matchN (M.w gx) (M.what key))).find? fun i => decide ((M.s (8 * gx + i)).1 = key)) := hit_eq M key gx
      have hE : Hid (hasE (M.w gx) = !decide (matchN (M.w gx) 128 = 0)) := hasE_match _
      have hwhat := M.what_lt key
      have e0 := d0.cell
      have e1 := d1.cell
      have e2 := d2.cell
      have hkey : ∀ i, i < 8 → X.cell? ⟨bs, (8 * gx + i) * 2, none⟩ = some (.string (M.s (8 * gx + i)).1) := fun i hi => hL.key _ (by rw [hF.slots]; omega)
      generalize hwd0 : M.w gx = wd at *
      have hwd : Hid (M.w gx = wd) := hwd0
      clear hwd0
      have hset := matchN_lt wd (M.what key)
      have hset2 := matchN_lt wd 128
      gi_wp2_with (refine ⟨trivial, ?_⟩; gi_at_call 54; refine (CallsIn.inRound l (callsIn_wide.2 (match_any wd (M.what key) _ hwl (by omega)))).mono ?_; rintro e X ⟨rfl, rfl⟩)
      gi_loopw [10] (fun p wr => ∃ q : Nat, p = .int .u8 (q : Nat) ∧ q < 256 ∧ Hid (M.hit key gx = (slotsL q).find? fun i => decide ((M.s (8 * gx + i)).1 = key)) ∧ ∃ m, wr = X.drewN m) (fun p _ => (slotsL (intOf p).toNat).length)
      case atStart => exact ⟨_, rfl, hset, hhit, 0, rfl⟩
      case round =>
        obtain ⟨q, rfl, hq, hq2, m, rfl⟩ := hrel
        clear hhit
        have hbel : Below w.heap.size w (X.drewN m) := ⟨d4.os, d4.tape, d4.output, d4.size, d4.block⟩
        by_cases h0q : q = 0
        · subst h0q
          have hnone : Hid (M.hit key gx = none) := by
            have := hq2.out
            rw [slots_zero] at this
            exact this
          by_cases hem : matchN wd 128 = 0
          · gi_wp2_with (refine ⟨trivial, ?_⟩; gi_at_call 41; refine (CallsIn.inRound l (callsIn_wide.2 (empties_any wd _ hwl))).mono ?_; rintro e Y ⟨rfl, rfl⟩; rw [hem])
            refine ⟨⟨Nat.le_refl _, fun _ _ _ => rfl⟩, ⟨Nat.le_refl _, fun _ _ _ => rfl⟩, d0, d1, d2, d3, hbel, fun rest' he => ?_⟩
            rw [hd6.out rest' he, hfind.out, SM.findG, hnone.out, hwd.out, hE.out, hem]
            rfl
          · have hem' : (matchN wd 128 : Int) ≠ 0 := by omega
            have hr1 : Hid (r = -1) := by
              show r = -1
              rw [← hres, hfind.out, SM.findG, hnone.out, hwd.out, hE.out, decide_eq_false hem]
              rfl
            gi_wp2_with (refine ⟨trivial, ?_⟩; gi_at_call 41; refine (CallsIn.inRound l (callsIn_wide.2 (empties_any wd _ hwl))).mono ?_; rintro e Y ⟨rfl, rfl⟩)
            refine ⟨⟨Nat.le_refl _, fun _ _ _ => rfl⟩, ⟨Nat.le_refl _, fun _ _ _ => rfl⟩, rfl, ?_, hbel⟩
            rw [hr1.out]
            exact d3
        · have hst := slots_step ⟨q, hq⟩ h0q
          dsimp only at hst
          have hf8 : firstN q < 8 := by
            have : firstN q ∈ slotsL q := by rw [hst]; exact List.mem_cons_self
            exact List.mem_range.1 (List.mem_filter.1 this).1
          have hq2' := hq2.out
          rw [hst, List.find?_cons] at hq2'
          have hk1 := hkey (firstN q) hf8
          have hn8 := nextN_lt q hq
          have hlen : Hid ((slotsL (nextN q)).length < (slotsL q).length) := by
            show _ < _
            rw [hst]; simp
          have hf := first_any q (X.drewN m) hTX hq
          clear hst hkey hq2
          have hs8 := hF.slots
          have hi1 : 8 * (gx : Int) + (firstN q : Nat) < M.ss.length := by omega
          clear hs8
          generalize firstN q = f at *
          have d3' : Boxed (X.drewN m) (b2 + 1) 3 (.int .i64 (-1)) := d3
          by_cases hke : (M.s (8 * gx + f)).1 = key
          · have hr1 : Hid (r = 8 * (gx : Int) + f) := by
              show r = _
              rw [decide_eq_true hke] at hq2'
              rw [← hres, hfind.out, SM.findG, hq2']
              show ((8 * gx + f : Nat) : Int) = _
              omega
            clear hq2'
            have e3 := d3.cell
            have f3 := d3.frozen
            gi_wp2_with (refine ⟨trivial, ?_⟩; gi_at_call 56; refine (CallsIn.inRound l (callsIn_wide.2 hf)).mono ?_; rintro e Y ⟨rfl, rfl⟩)
            refine wpIn_round_quiet (by kernel_rfl) (by kernel_rfl) (by kernel_rfl) ?_
            repeat (go_big_quiet_step (fail))
            refine wpQuiet_nil ?_
            rintro _ ⟨nq, rfl⟩
            gi_wp2
            have d3n : Boxed (X.drewN (m + nq)) (b2 + 1) 3 (.int .i64 (-1)) := d3
            refine ⟨((⟨Nat.le_refl _, fun _ _ _ => rfl⟩ : Keeps (b2 + 2) (b2 + 2 + 3) X (X.drewN (m + nq)))).setCell (p := ⟨b2 + 1, 0, none⟩) (.inl (Nat.lt_succ_self _)) _, ((⟨Nat.le_refl _, fun _ _ _ => rfl⟩ : Keeps W5.heap.size B X (X.drewN (m + nq)))).setCell (p := ⟨b2 + 1, 0, none⟩) (.inl (by show b2 + 1 < _; omega)) _, rfl, ?_, ?_⟩
            · rw [hr1.out]
              exact d3n.set _
            · exact (⟨hbel.os, hbel.tape, hbel.output, hbel.size, hbel.block⟩ : Below w.heap.size w (X.drewN (m + nq))).setCell (p := ⟨b2 + 1, 0, none⟩) (by show _ ≤ b2 + 1; omega) _
          · have hq3 : Hid (M.hit key gx = (slotsL (nextN q)).find? fun i => decide ((M.s (8 * gx + i)).1 = key)) := by
              rw [decide_eq_false hke] at hq2'
              exact hq2'
            clear hq2'
            have hke' := str_ne hke
            gi_wp2_with (refine ⟨trivial, ?_⟩; gi_at_call 56; refine (CallsIn.inRound l (callsIn_wide.2 hf)).mono ?_; rintro e Y ⟨rfl, rfl⟩)
            refine wpIn_round_quiet (by kernel_rfl) (by kernel_rfl) (by kernel_rfl) ?_
            repeat (go_big_quiet_step (fail))
            refine wpQuiet_nil ?_
            rintro _ ⟨nq, rfl⟩
            gi_wp2_with (refine ⟨trivial, ?_⟩; gi_at_call 55; refine (CallsIn.inRound l (callsIn_wide.2 (next_any q _ hq))).mono ?_; rintro e Y ⟨rfl, rfl⟩)
            go_roundw
            case rel => exact ⟨nextN q, rfl, hn8, hq3, m + nq, rfl⟩
            case measure => exact hlen.out
  case done =>
    rintro B X hB ⟨d0, d1, d2, d3, d4, d5⟩ hD
    have hr1 : Hid (r = -1) := by
      show r = -1
      have := d5 [] (by rw [hgs, List.append_nil])
      rw [← hres, this]
      rfl
    have e3 := d3.cell
    gi_wp2
    rw [Exit.noGoto_ret]
    refine ⟨by simp, .inl ⟨_, _, rfl, run_takeDeferred hD, ?_⟩⟩
    refine ⟨_, results_tmp rfl _ _ _, ?_, d4.trans ((Outside.putObj (B := 0) _ (Nat.le_refl _) hD rfl).below (by omega) d4.size)⟩
    rw [hr1.out]
    rfl
  case stop =>
    rintro B c pre X hB hpre ⟨rfl, d1, d2⟩ hD
    have e3 := d1.cell
    gi_wp2
    rw [Exit.noGoto_ret]
    refine ⟨by simp, .inl ⟨_, _, rfl, run_takeDeferred hD, ?_⟩⟩
    exact ⟨_, results_tmp rfl _ _ _, rfl, d2.trans ((Outside.putObj (B := 0) _ (Nat.le_refl _) hD rfl).below (by omega) d2.size)⟩
end Go.Proofs.YtiobfdfmfgjpfaaDoor
