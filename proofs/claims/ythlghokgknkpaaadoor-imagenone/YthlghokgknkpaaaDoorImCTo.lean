import Derived.Test.YthlghokgknkpaaaDoorSwHsTo
import Derived.Test.YthlghokgknkpaaaDoorSwMqTo
import Derived.Test.YthlghokgknkpaaaDoorSwJsTo
import Derived.Test.YthlghokgknkpaaaDoorImATo
/-
  Contract: Map[string].Get.
-/
namespace Go.Proofs.YthlghokgknkpaaaDoor
open Go.RowKit Go.Shelf

set_option maxHeartbeats 1000000 in
theorem get_map_s (b bw bs : Nat) (M : SM) (key : ByteArray) (w : World) (hT : Tab w) (h : Lies 60 56 w b bw bs M) (hF : M.Fit) (hV : M.Typed IsV_s) (hk : key.size < 140737488355328) :
    Calls Tryd.prog 11 #[.pointer (some ⟨b, 0, none⟩), .string key] w fun e w' => e = .returned (.tuple #[(M.get key (.string ⟨#[]⟩)).1, .bool (M.get key (.string ⟨#[]⟩)).2]) ∧ Below w.heap.size w w' := by
  have hfind := find_any_s b bw bs M key w hT h hF hk
  unfold SM.get
  cases hfd : M.find key with
  | some p =>
    obtain ⟨hp1, _, _, _⟩ := find_some hF hfd
    obtain ⟨x, hx⟩ := hV p hp1
    rw [hfd] at hfind
    simp only
    rw [hx]
    clear hfd
    go_enter Tryd.func11, Tryd.ntmps11
    go_wp2_with fail
    refine hfind.mono ?_
    rintro e w1 ⟨rfl, hb⟩
    have hl := h.below hb (Nat.le_refl _)
    obtain ⟨dw, ds, _, _, _, k3, _, _, _, hds⟩ := hl.cells
    have kv := hl.val p hp1
    rw [hx] at kv
    have hp2 : (p : Int) < M.ss.length := by omega
    have hp3 : (p : Int) ≠ -1 := by omega
    clear hx hfind
    go_wp2
    go_ret2
    exact ⟨rfl, hb⟩
  | none =>
    rw [hfd] at hfind
    simp only
    clear hfd
    go_enter Tryd.func11, Tryd.ntmps11
    go_wp2_with fail
    refine hfind.mono ?_
    rintro e w1 ⟨rfl, hb⟩
    clear hfind
    go_wp2
    go_ret2
    exact ⟨rfl, hb⟩
end Go.Proofs.YthlghokgknkpaaaDoor

/-
  Which blocks a map's calls leave as they were, by the kind that stands in them; a row of texts that is only read; a walk in memory; what Next does to what is ahead.
-/
namespace Go.Proofs.YthlghokgknkpaaaDoor
open Go.RowKit Go.Shelf

/-- Blocks of all kinds but those of T are as they were. -/
def Kinds (T : List TypeId) (X Y : World) : Prop := ∀ (t : TypeId) (k : Nat) (c : Array Value) (f : Nat × Nat), t ∉ T → X.heap[k]? = some (Obj.cells c t f) → Y.heap[k]? = some (Obj.cells c t f)
theorem Kinds.refl (T : List TypeId) (X : World) : Kinds T X X := fun _ _ _ _ _ h => h
theorem Kinds.trans {T : List TypeId} {X Y Z : World} (h : Kinds T X Y) (k : Kinds T Y Z) : Kinds T X Z := fun t i c f ht hi => k t i c f ht (h t i c f ht hi)
theorem Kinds.below {T : List TypeId} {X Y : World} (h : Below X.heap.size X Y) : Kinds T X Y := fun _ k _ _ _ hk => (h.block k (Array.getElem?_eq_some_iff.1 hk).1).trans hk
theorem Kinds.mono {T T' : List TypeId} {X Y : World} (h : Kinds T X Y) (hs : ∀ t ∈ T, t ∈ T') : Kinds T' X Y := fun t k c f ht hk => h t k c f (fun hm => ht (hs t hm)) hk
theorem Kinds.of {tM tS : TypeId} {X Y : World} {b bw bs : Nat} {M : SM} (hL : Lies tM tS X b bw bs M) (hb : But [b, bw, bs] X Y) : Kinds [tM, 22, tS] X Y := by
  intro t k c f ht hk
  refine (hb.block k (Array.getElem?_eq_some_iff.1 hk).1 fun hm => ?_).trans hk
  obtain ⟨cw, cs, h1, h2, h3⟩ := hL.row
  simp only [List.mem_cons, List.not_mem_nil, or_false, not_or] at hm ht
  rcases hm with rfl | rfl | rfl
  · rw [hk] at h1
    simp only [Option.some.injEq, Obj.cells.injEq] at h1
    exact ht.1 h1.2.1
  · rcases h2.2 with ⟨hn, _⟩ | ⟨g, cap, cur, e, _, hg, _⟩
    · cases hn
    · simp only [Value.slice.injEq, Option.some.injEq, Addr.mk.injEq] at e
      obtain ⟨⟨rfl, _, _⟩, _, _⟩ := e
      rw [hk] at hg
      simp only [Option.some.injEq, Obj.cells.injEq] at hg
      exact ht.2.1 hg.2.1
  · rcases h3.2 with ⟨hn, _⟩ | ⟨g, cap, cur, e, _, hg, _⟩
    · cases hn
    · simp only [Value.slice.injEq, Option.some.injEq, Addr.mk.injEq] at e
      obtain ⟨⟨rfl, _, _⟩, _, _⟩ := e
      rw [hk] at hg
      simp only [Option.some.injEq, Obj.cells.injEq] at hg
      exact ht.2.2 hg.2.1
/-- A block whose kind is not one of a map's is apart from the map. -/
theorem Lies.apart {tM tS : TypeId} {X : World} {b bw bs : Nat} {M : SM} (hL : Lies tM tS X b bw bs M) {t : TypeId} {k : Nat} {c : Array Value} {f : Nat × Nat} (ht : t ∉ [tM, 22, tS]) (hk : X.heap[k]? = some (Obj.cells c t f)) : k ∉ [b, bw, bs] := by
  intro hm
  obtain ⟨cw, cs, h1, h2, h3⟩ := hL.row
  simp only [List.mem_cons, List.not_mem_nil, or_false, not_or] at hm ht
  rcases hm with rfl | rfl | rfl
  · rw [hk] at h1
    simp only [Option.some.injEq, Obj.cells.injEq] at h1
    exact ht.1 h1.2.1
  · rcases h2.2 with ⟨hn, _⟩ | ⟨g, cap, cur, e, _, hg, _⟩
    · cases hn
    · simp only [Value.slice.injEq, Option.some.injEq, Addr.mk.injEq] at e
      obtain ⟨⟨rfl, _, _⟩, _, _⟩ := e
      rw [hk] at hg
      simp only [Option.some.injEq, Obj.cells.injEq] at hg
      exact ht.2.1 hg.2.1
  · rcases h3.2 with ⟨hn, _⟩ | ⟨g, cap, cur, e, _, hg, _⟩
    · cases hn
    · simp only [Value.slice.injEq, Option.some.injEq, Addr.mk.injEq] at e
      obtain ⟨⟨rfl, _, _⟩, _, _⟩ := e
      rw [hk] at hg
      simp only [Option.some.injEq, Obj.cells.injEq] at hg
      exact ht.2.2 hg.2.1
/-- A block of another kind is turned: the map lies as it lay. -/
theorem Lies.other {tM tS : TypeId} {X Y : World} {b bw bs : Nat} {M : SM} (hL : Lies tM tS X b bw bs M) {t : TypeId} {k : Nat} {c : Array Value} {f : Nat × Nat} (ht : t ∉ [tM, 22, tS]) (hk : X.heap[k]? = some (Obj.cells c t f)) (hb : But [k] X Y) : Lies tM tS Y b bw bs M := by
  have hn := hL.apart ht hk
  simp only [List.mem_cons, List.not_mem_nil, or_false, not_or] at hn
  exact hL.but hb (by simp; omega) (by simp; omega) (by simp; omega)
theorem Kinds.one {X Y : World} {t : TypeId} {k : Nat} {c : Array Value} {f : Nat × Nat} (hk : X.heap[k]? = some (Obj.cells c t f)) (hb : But [k] X Y) : Kinds [t] X Y := by
  intro t' k' c' f' ht hk'
  refine (hb.block k' (Array.getElem?_eq_some_iff.1 hk').1 fun hm => ?_).trans hk'
  simp only [List.mem_cons, List.not_mem_nil, or_false] at hm ht
  subst hm
  rw [hk] at hk'
  simp only [Option.some.injEq, Obj.cells.injEq] at hk'
  exact ht hk'.2.1.symm

/-- A row of texts, in a block of its kind. -/
def RowT (w : World) (v : Value) (xs : List ByteArray) : Prop :=
  ∃ p c, v = .slice p xs.length c ∧ xs.length ≤ c ∧ (p = none → c = 0) ∧
    (0 < xs.length → ∃ g o cur f, p = some ⟨g, o, none⟩ ∧ w.heap[g]? = some (Obj.cells cur 9 f) ∧ ∀ i, i < xs.length → w.cell? ⟨g, o + i, none⟩ = some (.string (xs.getD i ByteArray.empty)))
theorem RowT.has {w : World} {v : Value} {xs : List ByteArray} (h : RowT w v xs) : HasT w v xs := by
  obtain ⟨p, c, rfl, h1, h2, h3⟩ := h
  refine ⟨p, c, rfl, h1, h2, fun h0 => ?_⟩
  obtain ⟨g, o, cur, f, rfl, hg, hc⟩ := h3 h0
  exact ⟨g, o, rfl, (Array.getElem?_eq_some_iff.1 hg).1, hc⟩
theorem RowT.kinds {T : List TypeId} {w w' : World} {v : Value} {xs : List ByteArray} (h : RowT w v xs) (hk : Kinds T w w') (hT : 9 ∉ T) : RowT w' v xs := by
  obtain ⟨p, c, rfl, h1, h2, h3⟩ := h
  refine ⟨p, c, rfl, h1, h2, fun h0 => ?_⟩
  obtain ⟨g, o, cur, f, rfl, hg, hc⟩ := h3 h0
  have hg' := hk _ g cur f hT hg
  exact ⟨g, o, cur, f, rfl, hg', fun i hi => (World.cell?_of_block (a := ⟨g, o + i, none⟩) (hg'.trans hg.symm)).trans (hc i hi)⟩
theorem RowT.below {w w' : World} {v : Value} {xs : List ByteArray} (h : RowT w v xs) (hb : Below w.heap.size w w') : RowT w' v xs := h.kinds (T := []) (Kinds.below hb) (by simp)
theorem RowT.nil0 (w : World) : RowT w (.slice none 0 0) [] := ⟨_, _, rfl, Nat.le_refl _, fun _ => rfl, fun h => by simp at h⟩
theorem RowT.of_owns {w : World} {B : Nat} {v : Value} {xs : List ByteArray} (h : OwnsT w B v xs) : RowT w v xs := by
  obtain ⟨p, c, hv, h1, h2, h3⟩ := h.has
  refine ⟨p, c, hv, h1, h2, fun h0 => ?_⟩
  obtain ⟨b, o, rfl, hb, hc⟩ := h3 h0
  rcases h.2 with ⟨rfl, hn⟩ | ⟨g, cap, cur, rfl, hB, hg, _⟩
  · omega
  · simp only [Value.slice.injEq, Option.some.injEq, Addr.mk.injEq] at hv
    obtain ⟨⟨rfl, rfl, _⟩, _, _⟩ := hv
    exact ⟨g, 0, cur, _, rfl, hg, hc⟩
/-- The row behind its first text. -/
theorem RowT.tail {w : World} {p : Option Addr} {n c : Nat} {x : ByteArray} {xs : List ByteArray} (h : RowT w (.slice p n c) (x :: xs)) : ∃ (g o : Nat) (q : Addr), p = some ⟨g, o, none⟩ ∧ n = xs.length + 1 ∧ xs.length + 1 ≤ c ∧ w.cell? ⟨g, o, none⟩ = some (.string x) ∧ (∃ cur f, w.heap[g]? = some (Obj.cells cur 9 f)) ∧
    (if c = 1 then some (⟨g, o, none⟩ : Addr) else some ⟨g, o + 1, none⟩) = some q ∧ RowT w (.slice (some q) xs.length (c - 1)) xs := by
  obtain ⟨p', c', e, h1, h2, h3⟩ := h
  simp only [Value.slice.injEq, List.length_cons] at e
  obtain ⟨rfl, rfl, rfl⟩ := e
  obtain ⟨g, o, cur, f, rfl, hg, hc⟩ := h3 (by simp)
  have hc0 := hc 0 (by simp)
  rw [Nat.add_zero] at hc0
  rw [List.length_cons] at h1
  have hrest : ∀ q : Addr, xs = [] ∨ q = ⟨g, o + 1, none⟩ → RowT w (.slice (some q) xs.length (c - 1)) xs := by
    intro q hq
    refine ⟨some q, c - 1, rfl, by omega, (fun h => by cases h), fun h0 => ?_⟩
    rcases hq with rfl | rfl
    · simp at h0
    · refine ⟨g, o + 1, cur, f, rfl, hg, fun i hi => ?_⟩
      have := hc (i + 1) (by simp; omega)
      rw [show o + (i + 1) = o + 1 + i by omega] at this
      rw [this]
      rfl
  by_cases hcc : c = 1
  · have hx : xs = [] := List.eq_nil_of_length_eq_zero (by omega)
    exact ⟨g, o, ⟨g, o, none⟩, rfl, rfl, h1, hc0, ⟨cur, f, hg⟩, by rw [if_pos hcc], hrest _ (.inl hx)⟩
  · exact ⟨g, o, ⟨g, o + 1, none⟩, rfl, rfl, h1, hc0, ⟨cur, f, hg⟩, by rw [if_neg hcc], hrest _ (.inr rfl)⟩

/-- A walk in block x, over the map m; what is ahead reads as xs. -/
def Wk (tW : TypeId) (w : World) (x : Nat) (m : Value) (xs : List ByteArray) : Prop := ∃ v, w.heap[x]? = some (Obj.cells #[m, v] tW (0, 0)) ∧ RowT w v xs
theorem Wk.kinds {T : List TypeId} {tW : TypeId} {w w' : World} {x : Nat} {m : Value} {xs : List ByteArray} (h : Wk tW w x m xs) (hk : Kinds T w w') (hT : 9 ∉ T) (hW : tW ∉ T) : Wk tW w' x m xs := by
  obtain ⟨v, h1, h2⟩ := h
  exact ⟨v, hk _ _ _ _ hW h1, h2.kinds hk hT⟩
theorem Wk.below {tW : TypeId} {w w' : World} {x : Nat} {m : Value} {xs : List ByteArray} (h : Wk tW w x m xs) (hb : Below w.heap.size w w') : Wk tW w' x m xs := h.kinds (T := []) (Kinds.below hb) (by simp) (by simp)
theorem Wk.cells {tW : TypeId} {w : World} {x : Nat} {m : Value} {xs : List ByteArray} (h : Wk tW w x m xs) : ∃ v, w.cell? ⟨x, 0, none⟩ = some m ∧ w.cell? ⟨x, 1, none⟩ = some v ∧ w.frozen? ⟨x, 1, none⟩ = false ∧ RowT w v xs ∧ w.heap[x]? = some (Obj.cells #[m, v] tW (0, 0)) := by
  obtain ⟨v, h1, h2⟩ := h
  refine ⟨v, ?_, ?_, ?_, h2, h1⟩
  · unfold World.cell?; dsimp only; rw [h1]; rfl
  · unfold World.cell?; dsimp only; rw [h1]; rfl
  · simp [World.frozen?, h1]
theorem Wk.set {tW : TypeId} {w : World} {x : Nat} {m v v' : Value} {xs : List ByteArray} (hW : tW ≠ 9) (h1 : w.heap[x]? = some (Obj.cells #[m, v] tW (0, 0))) (h2 : RowT w v' xs) : Wk tW (w.setCell ⟨x, 1, none⟩ v') x m xs := by
  refine ⟨v', ?_, ?_⟩
  · simp [World.setCell, Array.getElem?_modify, h1]
  · exact h2.kinds (T := [tW]) (Kinds.one h1 ((But.refl [x] w).setCell (.inl (by simp)) _)) (by simpa using Ne.symm hW)

/-- What is ahead, from the next key on that is there. -/
def SM.skip (M : SM) : List ByteArray → List ByteArray
  | [] => []
  | k :: r => if (M.find k).isSome then k :: r else M.skip r
theorem skip_here {M : SM} {k : ByteArray} {r : List ByteArray} (h : (M.find k).isSome = true) : M.skip (k :: r) = k :: r := by unfold SM.skip; rw [if_pos h]
theorem skip_gone {M : SM} {k : ByteArray} {r : List ByteArray} (h : (M.find k).isSome = false) : M.skip (k :: r) = M.skip r := by rw [SM.skip, if_neg (by rw [h]; decide)]
theorem get_is (M : SM) (k : ByteArray) (z : Value) : (M.get k z).2 = (M.find k).isSome := by unfold SM.get; cases M.find k <;> rfl
theorem get_not {M : SM} {k : ByteArray} {z : Value} (h : (M.find k).isSome = false) : M.get k z = (z, false) := by
  unfold SM.get
  cases hf : M.find k with
  | none => rfl
  | some p => rw [hf] at h; cases h
/-- The keys that are passed over, and the first that is there. -/
theorem skip_split (M : SM) : ∀ xs : List ByteArray, ∃ pre, xs = pre ++ M.skip xs ∧ (∀ k ∈ pre, (M.find k).isSome = false) ∧ ∀ k r, M.skip xs = k :: r → (M.find k).isSome = true
  | [] => ⟨[], rfl, (fun _ h => by cases h), fun k r h => by cases h⟩
  | x :: xs => by
    by_cases h : (M.find x).isSome = true
    · refine ⟨[], by rw [skip_here h]; rfl, (fun _ h => by cases h), fun k r e => ?_⟩
      rw [skip_here h] at e
      cases e
      exact h
    · have h' : (M.find x).isSome = false := by simpa using h
      obtain ⟨pre, e, hp, hk⟩ := skip_split M xs
      refine ⟨x :: pre, by rw [skip_gone h', List.cons_append, ← e], fun k hm => ?_, fun k r e' => hk k r (by rw [skip_gone h'] at e'; exact e')⟩
      rcases List.mem_cons.1 hm with rfl | hm
      · exact h'
      · exact hp k hm
def headK (l : List ByteArray) : ByteArray := l.headD ByteArray.empty
/-- What Next tells: the key, its value, whether there is one. -/
def SM.nk (M : SM) (xs : List ByteArray) : ByteArray := (M.skip xs).headD ⟨#[]⟩
def SM.nv (M : SM) (xs : List ByteArray) : ByteArray := match M.skip xs with | [] => ⟨#[]⟩ | k :: _ => valK M k
def SM.nb (M : SM) (xs : List ByteArray) : Bool := match M.skip xs with | [] => false | _ :: _ => true
end Go.Proofs.YthlghokgknkpaaaDoor

/-
  Rows of pairs in memory: read, made by the call, cut, appended to.
-/
namespace Go.Proofs.YthlghokgknkpaaaDoor
open Go.RowKit Go.Shelf

/-- A pair's two cells; a row's cells. -/
def encP (p : ByteArray × ByteArray) : List Value := [.string p.1, .string p.2]
def pairsV (l : List (ByteArray × ByteArray)) : List Value := (l.map encP).flatten
theorem pairsV_nil : pairsV [] = [] := rfl
theorem pairsV_cons (p : ByteArray × ByteArray) (l : List (ByteArray × ByteArray)) : pairsV (p :: l) = .string p.1 :: .string p.2 :: pairsV l := rfl
theorem pairsV_append (l m : List (ByteArray × ByteArray)) : pairsV (l ++ m) = pairsV l ++ pairsV m := by simp [pairsV]
theorem pairsV_length : ∀ l : List (ByteArray × ByteArray), (pairsV l).length = l.length * 2
  | [] => rfl
  | p :: l => by rw [pairsV_cons, List.length_cons, List.length_cons, pairsV_length l, List.length_cons]; omega
theorem pairsV_one : ∀ l : List (ByteArray × ByteArray), ∀ u ∈ pairsV l, u.oneCell' = true
  | [], u, h => by cases h
  | p :: l, u, h => by
    rw [pairsV_cons] at h
    rcases List.mem_cons.1 h with rfl | h
    · rfl
    rcases List.mem_cons.1 h with rfl | h
    · rfl
    · exact pairsV_one l u h
theorem pairsV_key : ∀ {l : List (ByteArray × ByteArray)} {i : Nat}, i < l.length → (pairsV l)[i * 2]? = some (.string (l.getD i default).1)
  | [], i, h => by cases h
  | p :: l, 0, _ => rfl
  | p :: l, i + 1, h => by
    rw [pairsV_cons, show (i + 1) * 2 = i * 2 + 1 + 1 by omega, List.getElem?_cons_succ, List.getElem?_cons_succ, pairsV_key (by simpa using h), List.getD_cons_succ]
theorem pairsV_val : ∀ {l : List (ByteArray × ByteArray)} {i : Nat}, i < l.length → (pairsV l)[i * 2 + 1]? = some (.string (l.getD i default).2)
  | [], i, h => by cases h
  | p :: l, 0, _ => rfl
  | p :: l, i + 1, h => by
    rw [pairsV_cons, show (i + 1) * 2 + 1 = i * 2 + 1 + 1 + 1 by omega, List.getElem?_cons_succ, List.getElem?_cons_succ, pairsV_val (by simpa using h), List.getD_cons_succ]
theorem pairsV_drop (l : List (ByteArray × ByteArray)) : ∀ k, pairsV (l.drop k) = (pairsV l).drop (k * 2) := by
  induction l with
  | nil => intro k; simp [pairsV]
  | cons p l ih =>
    intro k
    cases k with
    | zero => simp
    | succ k => rw [List.drop_succ_cons, ih k, pairsV_cons, show (k + 1) * 2 = k * 2 + 1 + 1 by omega, List.drop_succ_cons, List.drop_succ_cons]
theorem pairsV_take (l : List (ByteArray × ByteArray)) : ∀ k, pairsV (l.take k) = (pairsV l).take (k * 2) := by
  induction l with
  | nil => intro k; simp [pairsV]
  | cons p l ih =>
    intro k
    cases k with
    | zero => simp [pairsV]
    | succ k => rw [List.take_succ_cons, pairsV_cons, ih k, pairsV_cons, show (k + 1) * 2 = k * 2 + 1 + 1 by omega, List.take_succ_cons, List.take_succ_cons]
theorem pgetD {l : List (ByteArray × ByteArray)} {i : Nat} (h : i < l.length) : l.getD i default = l[i] := by
  rw [List.getD_eq_getElem?_getD, List.getElem?_eq_getElem h]
  rfl
theorem pgetD_mem {l : List (ByteArray × ByteArray)} {i : Nat} (h : i < l.length) : l.getD i default ∈ l := by rw [pgetD h]; exact List.getElem_mem h
theorem ptake_snoc {l : List (ByteArray × ByteArray)} {i : Nat} (h : i < l.length) : l.take i ++ [l.getD i default] = l.take (i + 1) := by rw [pgetD h, List.take_succ_eq_append_getElem h]

/-- The value v is a slice that reads as these pairs. -/
def HasP (w : World) (v : Value) (l : List (ByteArray × ByteArray)) : Prop :=
  ∃ p c, v = .slice p l.length c ∧ l.length ≤ c ∧ (p = none → c = 0) ∧
    (0 < l.length → ∃ b o, p = some ⟨b, o, none⟩ ∧ b < w.heap.size ∧ ∀ j u, (pairsV l)[j]? = some u → w.cell? ⟨b, o + j, none⟩ = some u)
theorem HasP.below {w w' : World} {B : Nat} {v : Value} {l : List (ByteArray × ByteArray)} (h : HasP w v l) (hb : Below B w w') (hB : w.heap.size ≤ B) : HasP w' v l := by
  obtain ⟨p, c, rfl, h1, h2, h3⟩ := h
  refine ⟨p, c, rfl, h1, h2, fun h0 => ?_⟩
  obtain ⟨b, o, rfl, hlt, hc⟩ := h3 h0
  exact ⟨b, o, rfl, Nat.lt_of_lt_of_le hlt hb.size, fun j u hj => (hb.cell (p := ⟨b, o + j, none⟩) (by exact Nat.lt_of_lt_of_le hlt hB)).trans (hc j u hj)⟩
theorem HasP.nil0 (w : World) : HasP w (.slice none 0 0) [] := ⟨_, _, rfl, Nat.le_refl _, fun _ => rfl, fun h => by simp at h⟩
/-- The pair at place j. -/
theorem HasP.at {w : World} {p : Option Addr} {n c : Nat} {l : List (ByteArray × ByteArray)} (h : HasP w (.slice p n c) l) {j : Nat} (hj : j < n) :
    ∃ b o, p = some ⟨b, o, none⟩ ∧ b < w.heap.size ∧ n ≤ c ∧ n = l.length ∧ w.cell? ⟨b, o + j * 2, none⟩ = some (.string (l.getD j default).1) ∧ w.cell? ⟨b, o + j * 2 + 1, none⟩ = some (.string (l.getD j default).2) := by
  obtain ⟨p', c', e, h1, _, h3⟩ := h
  simp only [Value.slice.injEq] at e
  obtain ⟨rfl, rfl, rfl⟩ := e
  obtain ⟨b, o, rfl, hlt, hc⟩ := h3 (by omega)
  exact ⟨b, o, rfl, hlt, h1, rfl, hc _ _ (pairsV_key hj), by rw [Nat.add_assoc]; exact hc _ _ (pairsV_val hj)⟩
theorem HasP.len {w : World} {p : Option Addr} {n c : Nat} {l : List (ByteArray × ByteArray)} (h : HasP w (.slice p n c) l) : n = l.length ∧ n ≤ c := by
  obtain ⟨p', c', e, h1, _, _⟩ := h
  simp only [Value.slice.injEq] at e
  obtain ⟨rfl, rfl, rfl⟩ := e
  exact ⟨rfl, h1⟩
/-- 's[lo:lo+m]'. -/
theorem HasP.cut {w : World} {b o n c : Nat} {l : List (ByteArray × ByteArray)} (h : HasP w (.slice (some ⟨b, o, none⟩) n c) l) (lo m : Nat) (hm : lo + m ≤ n) : HasP w (.slice (some ⟨b, o + lo * 2, none⟩) m (c - lo)) ((l.drop lo).take m) := by
  obtain ⟨p, c', e, h1, _, h3⟩ := h
  simp only [Value.slice.injEq] at e
  obtain ⟨rfl, rfl, rfl⟩ := e
  have hl : ((l.drop lo).take m).length = m := by rw [List.length_take, List.length_drop]; omega
  refine ⟨_, _, by rw [hl], by rw [hl]; omega, (fun h => by cases h), fun h0 => ?_⟩
  rw [hl] at h0
  obtain ⟨b', o', e, hlt, hc⟩ := h3 (by omega)
  simp only [Option.some.injEq, Addr.mk.injEq] at e
  obtain ⟨rfl, rfl, _⟩ := e
  refine ⟨b, o + lo * 2, rfl, hlt, fun j u hj => ?_⟩
  rw [pairsV_take, pairsV_drop] at hj
  rw [Nat.add_assoc]
  refine hc _ _ ?_
  rw [List.getElem?_take] at hj
  split at hj
  · rw [List.getElem?_drop] at hj; exact hj
  · cases hj

/-- The value v is a slice that the call made, in a row from block B on. -/
def OwnsP (w : World) (B : Nat) (v : Value) (l : List (ByteArray × ByteArray)) : Prop := w.ownsRow B 33 2 v l.length (pairsV l)
theorem OwnsP.has {w : World} {B : Nat} {v : Value} {l : List (ByteArray × ByteArray)} (h : OwnsP w B v l) : HasP w v l := by
  rcases h.2 with ⟨rfl, hn⟩ | ⟨g, cap, cur, rfl, hB, hg, hnc, _, _, _⟩
  · exact ⟨none, 0, by rw [hn], by omega, fun _ => rfl, fun h0 => by omega⟩
  · refine ⟨some ⟨g, 0, none⟩, cap, rfl, hnc, (fun h0 => by cases h0), fun _ => ⟨g, 0, rfl, (Array.getElem?_eq_some_iff.1 hg).1, fun j u hj => ?_⟩⟩
    have hc := World.ownsRow.cells h (g := g) rfl j u hj
    rw [Addr.add_lit] at hc
    exact hc
theorem OwnsP.below {w w' : World} {B B' : Nat} {v : Value} {l : List (ByteArray × ByteArray)} (h : OwnsP w B v l) (hb : Below B' w w') (hB : w.heap.size ≤ B') : OwnsP w' B v l := by
  refine ⟨h.1, ?_⟩
  rcases h.2 with hn | ⟨g, cap, cur, rfl, hb1, hg, rest⟩
  · exact .inl hn
  · refine .inr ⟨g, cap, cur, rfl, hb1, ?_, rest⟩
    rw [hb.block g (Nat.lt_of_lt_of_le (Array.getElem?_eq_some_iff.1 hg).1 hB)]
    exact hg
theorem OwnsP.mono {w : World} {B B' : Nat} {v : Value} {l : List (ByteArray × ByteArray)} (h : OwnsP w B v l) (hB : B' ≤ B) : OwnsP w B' v l := row_mono h hB
theorem OwnsP.nil0 (w : World) (B : Nat) : OwnsP w B (.slice none 0 0) [] := World.ownsRow_nil w B _ 2
/-- A row of pairs in a block of its kind. -/
def RowP (w : World) (v : Value) (l : List (ByteArray × ByteArray)) : Prop :=
  ∃ p c, v = .slice p l.length c ∧ l.length ≤ c ∧ (p = none → c = 0) ∧
    (0 < l.length → ∃ b o cur f, p = some ⟨b, o, none⟩ ∧ w.heap[b]? = some (Obj.cells cur 33 f) ∧ ∀ j u, (pairsV l)[j]? = some u → w.cell? ⟨b, o + j, none⟩ = some u)
theorem RowP.has {w : World} {v : Value} {l : List (ByteArray × ByteArray)} (h : RowP w v l) : HasP w v l := by
  obtain ⟨p, c, rfl, h1, h2, h3⟩ := h
  refine ⟨p, c, rfl, h1, h2, fun h0 => ?_⟩
  obtain ⟨b, o, cur, f, rfl, hb, hc⟩ := h3 h0
  exact ⟨b, o, rfl, (Array.getElem?_eq_some_iff.1 hb).1, hc⟩
theorem RowP.kinds {T : List TypeId} {w w' : World} {v : Value} {l : List (ByteArray × ByteArray)} (h : RowP w v l) (hk : Kinds T w w') (hT : 33 ∉ T) : RowP w' v l := by
  obtain ⟨p, c, rfl, h1, h2, h3⟩ := h
  refine ⟨p, c, rfl, h1, h2, fun h0 => ?_⟩
  obtain ⟨b, o, cur, f, rfl, hb, hc⟩ := h3 h0
  have hb' := hk _ b cur f hT hb
  exact ⟨b, o, cur, f, rfl, hb', fun j u hj => (World.cell?_of_block (a := ⟨b, o + j, none⟩) (hb'.trans hb.symm)).trans (hc j u hj)⟩
theorem RowP.below {w w' : World} {v : Value} {l : List (ByteArray × ByteArray)} (h : RowP w v l) (hb : Below w.heap.size w w') : RowP w' v l := h.kinds (T := []) (Kinds.below hb) (by simp)
theorem RowP.of_owns {w : World} {B : Nat} {v : Value} {l : List (ByteArray × ByteArray)} (h : OwnsP w B v l) : RowP w v l := by
  obtain ⟨p, c, hv, h1, h2, h3⟩ := h.has
  refine ⟨p, c, hv, h1, h2, fun h0 => ?_⟩
  obtain ⟨b, o, rfl, hb, hc⟩ := h3 h0
  rcases h.2 with ⟨rfl, hn⟩ | ⟨g, cap, cur, rfl, hB, hg, _⟩
  · omega
  · simp only [Value.slice.injEq, Option.some.injEq, Addr.mk.injEq] at hv
    obtain ⟨⟨rfl, rfl, _⟩, _, _⟩ := hv
    exact ⟨g, 0, cur, _, rfl, hg, hc⟩
end Go.Proofs.YthlghokgknkpaaaDoor
