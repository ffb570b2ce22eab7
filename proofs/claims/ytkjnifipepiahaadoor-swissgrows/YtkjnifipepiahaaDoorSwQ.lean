/-
  Plain mathematics of the map: it is a map. No function of the program is named here.
-/
import Derived.Test.YtkjnifipepiahaaDoorTri
namespace Go.Proofs.YtkjnifipepiahaaDoor
open Go.RowKit

/-- The byte of a place. -/
def SM.byte (M : SM) (p : Nat) : Nat := byteN (M.w (p / 8)) (p % 8)

/-- Is there an empty slot in group g? -/
theorem hasE_iff (w : Nat) : hasE w = true ↔ ∃ i, i < 8 ∧ byteN w i = 128 := by
  unfold hasE
  simp [List.any_eq_true]

structure SM.Inv (M : SM) (K : Value → Prop) : Prop where
  fit : M.Fit
  typed : M.Typed K
  bytes : ∀ p, p < 8 * M.ws.length → M.byte p < 128 ∨ M.byte p = 128 ∨ M.byte p = 254
  keys : M.n = (List.range (8 * M.ws.length)).countP fun p => decide (M.byte p < 128)
  tombs : M.t = (List.range (8 * M.ws.length)).countP fun p => decide (M.byte p = 254)
  load : M.n + M.t ≤ 7 * M.ws.length
  what : ∀ p, p < 8 * M.ws.length → M.byte p < 128 → M.byte p = M.what (M.s p).1
  reach : ∀ p, p < 8 * M.ws.length → M.byte p < 128 → ∃ pre post, M.gs (M.s p).1 = pre ++ p / 8 :: post ∧ ∀ g ∈ pre, hasE (M.w g) = false
  one : ∀ p q, p < 8 * M.ws.length → q < 8 * M.ws.length → M.byte p < 128 → M.byte q < 128 → (M.s p).1 = (M.s q).1 → p = q

theorem byte_at (M : SM) (g i : Nat) (hi : i < 8) : M.byte (8 * g + i) = byteN (M.w g) i := by
  unfold SM.byte
  rw [show (8 * g + i) / 8 = g by omega, show (8 * g + i) % 8 = i by omega]

/-- A slot that is turned changes the count of what it was and of what it is. -/
theorem count_turn (N p : Nat) (hp : p < N) (f f' : Nat → Bool) (h : ∀ q, q < N → q ≠ p → f' q = f q) : (List.range N).countP f' + (f p).toNat = (List.range N).countP f + (f' p).toNat := by
  induction N with
  | zero => omega
  | succ N ih =>
    rw [List.range_succ, List.countP_append, List.countP_append, List.countP_singleton, List.countP_singleton]
    by_cases e : p = N
    · subst e
      have : (List.range p).countP f' = (List.range p).countP f := by
        refine List.countP_congr fun q hq => ?_
        have hq := List.mem_range.1 hq
        rw [h q (by omega) (by omega)]
      rw [this]
      cases f p <;> cases f' p <;> simp
    · have h1 := ih (by omega) fun q hq hne => h q (by omega) hne
      rw [h N (by omega) (fun e' => e e'.symm)]
      omega

/-- What is full is found. -/
theorem find_full {M : SM} {K : Value → Prop} (h : M.Inv K) {p : Nat} (hp : p < 8 * M.ws.length) (hb : M.byte p < 128) : M.find (M.s p).1 = some p := by
  obtain ⟨pre, post, hgs, hpre⟩ := h.reach p hp hb
  have hnd := gs_nodup h.fit (M.s p).1
  have hlt := SM.gs_lt h.fit (M.s p).1
  unfold SM.find
  rw [hgs] at hnd hlt ⊢
  clear hgs
  generalize hkey : (M.s p).1 = key at *
  have hwhat : M.byte p = M.what key := by rw [← hkey]; exact h.what p hp hb
  have hone : ∀ g i, g < M.ws.length → i < 8 → byteN (M.w g) i = M.what key → (M.s (8 * g + i)).1 = key → 8 * g + i = p := fun g i hg hi hw hs => by
    refine h.one _ _ (by omega) hp ?_ hb (by rw [hs, hkey])
    rw [byte_at M g i hi, hw]
    exact M.what_lt key
  induction pre with
  | nil =>
    rw [List.nil_append, SM.findG]
    have : M.hit key (p / 8) = some (p % 8) := by
      unfold SM.hit
      rw [List.find?_eq_some_iff_append]
      refine ⟨?_, List.range (p % 8), (List.range (8 - (p % 8 + 1))).map (p % 8 + 1 + ·), ?_, fun i hi => ?_⟩
      · refine decide_eq_true ⟨hwhat, ?_⟩
        rw [show 8 * (p / 8) + p % 8 = p by omega]
        exact hkey
      · have h8 : p % 8 < 8 := Nat.mod_lt _ (by decide)
        rw [show List.range 8 = List.range ((p % 8 + 1) + (8 - (p % 8 + 1))) by congr 1; omega, List.range_add, List.range_succ, List.append_assoc]
        rfl
      · have hi := List.mem_range.1 hi
        rw [Bool.not_eq_true']
        refine decide_eq_false fun ⟨h1, h2⟩ => ?_
        have := hone (p / 8) i (by omega) (by omega) h1 h2
        omega
    rw [this]
    show some (8 * (p / 8) + p % 8) = some p
    congr 1
    omega
  | cons g r ih =>
    rw [List.cons_append] at hnd hlt ⊢
    rw [SM.findG]
    have hg : g < M.ws.length := hlt g List.mem_cons_self
    have : M.hit key g = none := by
      unfold SM.hit
      rw [List.find?_eq_none]
      intro i hi hd
      have hi := List.mem_range.1 hi
      obtain ⟨h1, h2⟩ := of_decide_eq_true hd
      have he := hone g i hg hi h1 h2
      have hgp : g = p / 8 := by omega
      have := (List.nodup_cons.1 hnd).1
      rw [hgp] at this
      exact this (List.mem_append_right _ List.mem_cons_self)
    rw [this, hpre g List.mem_cons_self]
    exact ih (fun g' hg' => hpre g' (List.mem_cons_of_mem _ hg')) (List.nodup_cons.1 hnd).2 fun g' hg' => hlt g' (List.mem_cons_of_mem _ hg')
theorem find_is {M : SM} {K : Value → Prop} (h : M.Inv K) {key : ByteArray} {p : Nat} : M.find key = some p ↔ p < 8 * M.ws.length ∧ M.byte p < 128 ∧ (M.s p).1 = key := by
  constructor
  · intro hf
    obtain ⟨h1, h2, h3, h4⟩ := find_some h.fit hf
    rw [h.fit.slots] at h1
    refine ⟨h1, ?_, h4⟩
    show byteN (M.w (p / 8)) (p % 8) < 128
    rw [h3]
    exact M.what_lt key
  · rintro ⟨h1, h2, rfl⟩
    exact find_full h h1 h2
end Go.Proofs.YtkjnifipepiahaaDoor
