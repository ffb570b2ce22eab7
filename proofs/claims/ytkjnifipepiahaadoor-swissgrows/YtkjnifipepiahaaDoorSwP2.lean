/-
  Plain mathematics of the map: what is found lies there.
-/
import Derived.Test.YtkjnifipepiahaaDoorSwP
namespace Go.Proofs.YtkjnifipepiahaaDoor
open Go.RowKit

theorem hit_some {M : SM} {key : ByteArray} {g i : Nat} (h : M.hit key g = some i) : i < 8 ∧ byteN (M.w g) i = M.what key ∧ (M.s (8 * g + i)).1 = key := by
  unfold SM.hit at h
  have h1 := List.mem_range.1 (List.mem_of_find?_eq_some h)
  have h2 := of_decide_eq_true (List.find?_some (p := fun i => decide (byteN (M.w g) i = M.what key ∧ (M.s (8 * g + i)).1 = key)) h)
  exact ⟨h1, h2.1, h2.2⟩
theorem findG_some {M : SM} {key : ByteArray} : ∀ {l : List Nat} {p : Nat}, M.findG key l = some p → ∃ g i, p = 8 * g + i ∧ g ∈ l ∧ i < 8 ∧ byteN (M.w g) i = M.what key ∧ (M.s p).1 = key
  | [], _, h => by cases h
  | x :: r, p, h => by
    unfold SM.findG at h
    cases hh : M.hit key x with
    | some i =>
      rw [hh] at h
      obtain ⟨h1, h2, h3⟩ := hit_some hh
      simp only [Option.some.injEq] at h
      subst h
      exact ⟨x, i, rfl, List.mem_cons_self, h1, h2, h3⟩
    | none =>
      rw [hh] at h
      simp only at h
      split at h
      · cases h
      · obtain ⟨g, i, e1, e2, e3, e4, e5⟩ := findG_some h
        exact ⟨g, i, e1, List.mem_cons_of_mem _ e2, e3, e4, e5⟩
theorem find_some {M : SM} (hF : M.Fit) {key : ByteArray} {p : Nat} (h : M.find key = some p) : p < M.ss.length ∧ p / 8 < M.ws.length ∧ byteN (M.w (p / 8)) (p % 8) = M.what key ∧ (M.s p).1 = key := by
  obtain ⟨g, i, rfl, h2, h3, h4, h5⟩ := findG_some h
  have hg := SM.gs_lt hF key g h2
  rw [hF.slots, show (8 * g + i) / 8 = g by omega, show (8 * g + i) % 8 = i by omega]
  exact ⟨by omega, hg, h4, h5⟩

/-- The values are all of one kind. -/
def SM.Typed (M : SM) (K : Value → Prop) : Prop := ∀ p, p < M.ss.length → K (M.s p).2
theorem typed_place {M : SM} {K : Value → Prop} (hF : M.Fit) (hV : M.Typed K) (key : ByteArray) {v : Value} (hv : K v) : (M.place key v).Typed K := by
  rcases place_cases M key v hF with h | ⟨g, i, hg, hi, _, _, h⟩
  · rw [h]; exact hV
  · rw [h]
    intro p hp
    have hp' : p < M.ss.length := by simpa [SM.lay] using hp
    rw [lay_s M key v g i p (by have := hF.slots; omega)]
    split
    · exact hv
    · exact hV p hp'
theorem typed_empty (k0 k1 : Int) (z : Value) (g : Nat) {K : Value → Prop} (hz : K z) : (SM.empty k0 k1 z g).Typed K := by
  intro p hp
  have hp' : p < 8 * g := by simpa [SM.empty] using hp
  show K ((List.replicate (8 * g) (ByteArray.empty, z)).getD p _).2
  simp [hp']
  exact hz
theorem fold_typed {M : SM} {K : Value → Prop} (hF : M.Fit) (hV : M.Typed K) : ∀ (l : List Nat) (N : SM), (∀ p ∈ l, p < M.ss.length) → N.n + l.length ≤ 100000 → N.Fit → N.NoDel → N.Typed K →
    (l.foldl (fun N p => N.place (M.s p).1 (M.s p).2) N).Typed K
  | [], _, _, _, _, _, h => h
  | p :: r, N, hp, hl, h1, h2, h3 => by
    rw [List.length_cons] at hl
    have ht := hF.texts p (hp p List.mem_cons_self)
    obtain ⟨f1, f2, _⟩ := fit_place h1 (M.s p).1 (M.s p).2 ht (by omega)
    exact fold_typed hF hV r (N.place (M.s p).1 (M.s p).2) (fun q hq => hp q (List.mem_cons_of_mem _ hq)) (by omega) f1 (noDel_place h1 h2 _ _) (typed_place h1 h3 _ (hV p (hp p List.mem_cons_self)))
theorem rehash_fit {M : SM} (hF : M.Fit) (hg : isGood (M.size' : Int) = true) (z : Value) : (M.rehash z).Fit ∧ (M.rehash z).NoDel ∧ (M.rehash z).n ≤ 8192 := by
  have h := re_fit hF hg z M.full (full_lt hF) (by have := full_len hF; omega)
  exact ⟨h.1, h.2.1, Nat.le_trans h.2.2 (full_len hF)⟩
theorem rehash_typed {M : SM} {K : Value → Prop} (hF : M.Fit) (hg : isGood (M.size' : Int) = true) {z : Value} (hV : M.Typed K) (hz : K z) : (M.rehash z).Typed K :=
  fold_typed hF hV M.full _ (full_lt hF) (by have := full_len hF; show 0 + _ ≤ _; omega) (fit_empty _ _ _ _ hg) (noDel_empty _ _ _ _) (typed_empty _ _ _ _ hz)

/-- What Put and Delete ask of a map. -/
structure SM.Sane (M : SM) (K : Value → Prop) : Prop where
  fit : M.Fit
  typed : M.Typed K
  tombs : ∀ g i, g < M.ws.length → i < 8 → byteN (M.w g) i = 254 → 1 ≤ M.t
  some : ∀ g i, g < M.ws.length → i < 8 → byteN (M.w g) i < 128 → 1 ≤ M.n
  room : 7 * M.ws.length ≤ M.n + M.t → M.n < 2000 → isGood (M.size' : Int) = true
end Go.Proofs.YtkjnifipepiahaaDoor
