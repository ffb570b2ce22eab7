/-
  Plain mathematics of the map: what placing keeps. No function of the program is named here.
-/
import Derived.Test.YtkjnifipepiahaaDoorSwB
namespace Go.Proofs.YtkjnifipepiahaaDoor
open Go.RowKit

theorem getD_set {α : Type} (l : List α) (i j : Nat) (x d : α) : (l.set i x).getD j d = if j = i ∧ i < l.length then x else l.getD j d := by
  rw [List.getD_eq_getElem?_getD, List.getD_eq_getElem?_getD, List.getElem?_set]
  by_cases h : i = j
  · subst h
    by_cases h2 : i < l.length
    · simp [h2]
    · simp [h2]
  · rw [if_neg h, if_neg (fun e => h e.1.symm)]

theorem spot_mem {M : SM} : ∀ {l : List Nat} {g i : Nat}, M.spot l = some (g, i) → g ∈ l ∧ freeI (M.w g) = some i
  | [], _, _, h => by cases h
  | x :: r, g, i, h => by
    unfold SM.spot at h
    cases hf : freeI (M.w x) with
    | none =>
      rw [hf] at h
      obtain ⟨h1, h2⟩ := spot_mem h
      exact ⟨List.mem_cons_of_mem _ h1, h2⟩
    | some j =>
      rw [hf] at h
      simp only [Option.some.injEq, Prod.mk.injEq] at h
      obtain ⟨rfl, rfl⟩ := h
      exact ⟨List.mem_cons_self, hf⟩
theorem freeI_lt {w i : Nat} (h : freeI w = some i) : i < 8 ∧ (byteN w i = 128 ∨ byteN w i = 254) := by
  unfold freeI at h
  exact ⟨List.mem_range.1 (List.mem_of_find?_eq_some h), of_decide_eq_true (List.find?_some (p := fun i => decide (byteN w i = 128 ∨ byteN w i = 254)) h)⟩

/-- No slot is deleted. -/
def SM.NoDel (M : SM) : Prop := ∀ g i, g < M.ws.length → i < 8 → byteN (M.w g) i ≠ 254

theorem lay_w (M : SM) (key : ByteArray) (v : Value) (g i j : Nat) (hg : g < M.ws.length) : (M.lay key v g i).w j = if j = g then putN (M.w g) i (M.what key) else M.w j := by
  show (M.ws.set g (putN (M.w g) i (M.what key))).getD j 0 = _
  rw [getD_set]
  by_cases h : j = g
  · rw [if_pos ⟨h, hg⟩, if_pos h]
  · rw [if_neg (fun e => h e.1), if_neg h]
    rfl
theorem lay_s (M : SM) (key : ByteArray) (v : Value) (g i p : Nat) (hg : 8 * g + i < M.ss.length) : (M.lay key v g i).s p = if p = 8 * g + i then (key, v) else M.s p := by
  show (M.ss.set (8 * g + i) (key, v)).getD p _ = _
  rw [getD_set]
  by_cases h : p = 8 * g + i
  · rw [if_pos ⟨h, hg⟩, if_pos h]
  · rw [if_neg (fun e => h e.1), if_neg h]
    rfl

theorem fit_lay {M : SM} (hF : M.Fit) (key : ByteArray) (v : Value) (g i : Nat) (hg : g < M.ws.length) (hi : i < 8) (hk : key.size < 140737488355328) (hn : M.n + 1 ≤ 1099511627776) : (M.lay key v g i).Fit := by
  have hl : (M.lay key v g i).ws.length = M.ws.length := by simp [SM.lay]
  have hl2 : (M.lay key v g i).ss.length = M.ss.length := by simp [SM.lay]
  refine ⟨by rw [hl]; exact hF.good, by rw [hl, hl2]; exact hF.slots, fun j hj => ?_, ⟨hn, ?_⟩, fun p hp => ?_⟩
  · rw [lay_w M key v g i j hg]
    split
    · exact put_lt _ _ _ (by have := M.what_lt key; omega)
    · exact hF.words j (by rwa [hl] at hj)
  · show (if byteN (M.w g) i = 254 then M.t - 1 else M.t) ≤ _
    have := hF.few.2
    split <;> omega
  · rw [lay_s M key v g i p (by have := hF.slots; omega)]
    split
    · exact hk
    · exact hF.texts p (by rwa [hl2] at hp)

theorem place_cases (M : SM) (key : ByteArray) (v : Value) (hF : M.Fit) : M.place key v = M ∨ ∃ g i, g < M.ws.length ∧ i < 8 ∧ freeI (M.w g) = some i ∧ M.spot (M.gs key) = some (g, i) ∧ M.place key v = M.lay key v g i := by
  unfold SM.place
  cases h : M.spot (M.gs key) with
  | none => exact .inl rfl
  | some p =>
    obtain ⟨g, i⟩ := p
    obtain ⟨h1, h2⟩ := spot_mem h
    exact .inr ⟨g, i, SM.gs_lt hF key g h1, (freeI_lt h2).1, h2, rfl, rfl⟩

theorem fit_place {M : SM} (hF : M.Fit) (key : ByteArray) (v : Value) (hk : key.size < 140737488355328) (hn : M.n + 1 ≤ 1099511627776) : (M.place key v).Fit ∧ (M.place key v).n ≤ M.n + 1 ∧ (M.place key v).ws.length = M.ws.length := by
  rcases place_cases M key v hF with h | ⟨g, i, hg, hi, _, _, h⟩
  · rw [h]; exact ⟨hF, by omega, rfl⟩
  · rw [h]
    exact ⟨fit_lay hF key v g i hg hi hk hn, Nat.le_refl _, by simp [SM.lay]⟩
theorem noDel_place {M : SM} (hF : M.Fit) (hD : M.NoDel) (key : ByteArray) (v : Value) : (M.place key v).NoDel := by
  rcases place_cases M key v hF with h | ⟨g, i, hg, hi, _, _, h⟩
  · rw [h]; exact hD
  · rw [h]
    intro g' i' hg' hi'
    rw [lay_w M key v g i g' hg]
    split
    · rw [put_byte _ _ _ (by have := M.what_lt key; omega) _ hi']
      have := M.what_lt key
      split
      · omega
      · exact hD g i' hg hi'
    · exact hD g' i' (by simpa [SM.lay] using hg') hi'

theorem noneW_byte : ∀ i : Fin 8, byteN noneW i.val = 128 := by decide +kernel
theorem empty_w (k0 k1 : Int) (z : Value) (g j : Nat) (hj : j < g) : (SM.empty k0 k1 z g).w j = noneW := by
  show (List.replicate g noneW).getD j 0 = _
  simp [hj]
theorem fit_empty (k0 k1 : Int) (z : Value) (g : Nat) (hg : isGood (g : Int) = true) : (SM.empty k0 k1 z g).Fit := by
  refine ⟨by simpa [SM.empty] using hg, by simp [SM.empty], fun j hj => ?_, ⟨Nat.zero_le _, Nat.zero_le _⟩, fun p hp => ?_⟩
  · rw [empty_w _ _ _ _ _ (by simpa [SM.empty] using hj)]; decide
  · have hp' : p < 8 * g := by simpa [SM.empty] using hp
    show ((List.replicate (8 * g) (ByteArray.empty, z)).getD p _).1.size < _
    simp [hp']
theorem noDel_empty (k0 k1 : Int) (z : Value) (g : Nat) : (SM.empty k0 k1 z g).NoDel := by
  intro j i hj hi
  rw [empty_w _ _ _ _ _ (by simpa [SM.empty] using hj), noneW_byte ⟨i, hi⟩]
  decide

/-- The keys at the places of a list, placed one behind the other. -/
def SM.re (M : SM) (z : Value) (l : List Nat) : SM := l.foldl (fun N p => N.place (M.s p).1 (M.s p).2) (SM.empty M.k0 M.k1 z M.size')
theorem re_snoc (M : SM) (z : Value) (l : List Nat) (p : Nat) : M.re z (l ++ [p]) = (M.re z l).place (M.s p).1 (M.s p).2 := by simp [SM.re, List.foldl_append]
theorem re_full (M : SM) (z : Value) : M.rehash z = M.re z M.full := rfl
theorem fold_fit {M : SM} (hF : M.Fit) : ∀ (l : List Nat) (N : SM), (∀ p ∈ l, p < M.ss.length) → N.n + l.length ≤ 100000 → N.Fit → N.NoDel →
    (l.foldl (fun N p => N.place (M.s p).1 (M.s p).2) N).Fit ∧ (l.foldl (fun N p => N.place (M.s p).1 (M.s p).2) N).NoDel ∧ (l.foldl (fun N p => N.place (M.s p).1 (M.s p).2) N).n ≤ N.n + l.length
  | [], _, _, _, h1, h2 => ⟨h1, h2, Nat.le_refl _⟩
  | p :: r, N, hp, hl, h1, h2 => by
    rw [List.length_cons] at hl
    have ht := hF.texts p (hp p List.mem_cons_self)
    obtain ⟨f1, f2, _⟩ := fit_place h1 (M.s p).1 (M.s p).2 ht (by omega)
    obtain ⟨g1, g2, g3⟩ := fold_fit hF r (N.place (M.s p).1 (M.s p).2) (fun q hq => hp q (List.mem_cons_of_mem _ hq)) (by omega) f1 (noDel_place h1 h2 _ _)
    exact ⟨g1, g2, Nat.le_trans g3 (by rw [List.length_cons]; omega)⟩
theorem re_fit {M : SM} (hF : M.Fit) (hg : isGood (M.size' : Int) = true) (z : Value) (l : List Nat) (hp : ∀ p ∈ l, p < M.ss.length) (hl : l.length ≤ 100000) : (M.re z l).Fit ∧ (M.re z l).NoDel ∧ (M.re z l).n ≤ l.length := by
  have := fold_fit hF l (SM.empty M.k0 M.k1 z M.size') hp (by show 0 + _ ≤ _; omega) (fit_empty _ _ _ _ hg) (noDel_empty _ _ _ _)
  exact ⟨this.1, this.2.1, by have h := this.2.2; show _ ≤ _; rw [show (SM.empty M.k0 M.k1 z M.size').n = 0 from rfl, Nat.zero_add] at h; exact h⟩
theorem full_lt {M : SM} (hF : M.Fit) : ∀ p ∈ M.full, p < M.ss.length := fun p hp => by
  have := List.mem_range.1 (List.mem_filter.1 hp).1
  rw [hF.slots]
  exact this
theorem full_len {M : SM} (hF : M.Fit) : M.full.length ≤ 8192 := by
  have h1 := List.length_filter_le (fun p => decide (byteN (M.w (p / 8)) (p % 8) < 128)) (List.range (8 * M.ws.length))
  rw [List.length_range] at h1
  have := good_range hF.good
  unfold SM.full
  omega
end Go.Proofs.YtkjnifipepiahaaDoor
