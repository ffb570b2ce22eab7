/-
  Plain mathematics of the map: placing a key keeps what every map is.
-/
import Derived.Test.YtkjnifipepiahaaDoorSwQ
namespace Go.Proofs.YtkjnifipepiahaaDoor
open Go.RowKit

/-- A key with its value is there. -/
def SM.Has (M : SM) (k : ByteArray) (v : Value) : Prop := ∃ p, p < 8 * M.ws.length ∧ M.byte p < 128 ∧ M.s p = (k, v)
theorem has_find {M : SM} {K : Value → Prop} (h : M.Inv K) {k : ByteArray} {v : Value} : M.Has k v ↔ ∃ p, M.find k = some p ∧ (M.s p).2 = v := by
  constructor
  · rintro ⟨p, h1, h2, h3⟩
    exact ⟨p, (find_is h).2 ⟨h1, h2, by rw [h3]⟩, by rw [h3]⟩
  · rintro ⟨p, h1, rfl⟩
    obtain ⟨a, b, rfl⟩ := (find_is h).1 h1
    exact ⟨p, a, b, rfl⟩
theorem find_none_iff {M : SM} {K : Value → Prop} (h : M.Inv K) {k : ByteArray} : M.find k = none ↔ ∀ v, ¬ M.Has k v := by
  constructor
  · intro hn v hv
    obtain ⟨p, hp, _⟩ := (has_find h).1 hv
    rw [hn] at hp
    cases hp
  · intro hn
    cases hf : M.find k with
    | none => rfl
    | some p => exact absurd ((has_find h).2 ⟨p, hf, rfl⟩) (hn _)
theorem has_one {M : SM} {K : Value → Prop} (h : M.Inv K) {k : ByteArray} {v v' : Value} (h1 : M.Has k v) (h2 : M.Has k v') : v = v' := by
  obtain ⟨p, hp, rfl⟩ := (has_find h).1 h1
  obtain ⟨q, hq, rfl⟩ := (has_find h).1 h2
  rw [hp] at hq
  cases hq
  rfl

theorem spot_split {M : SM} : ∀ {l : List Nat} {g i : Nat}, M.spot l = some (g, i) → ∃ pre post, l = pre ++ g :: post ∧ (∀ g' ∈ pre, freeI (M.w g') = none) ∧ freeI (M.w g) = some i
  | [], _, _, h => by cases h
  | x :: r, g, i, h => by
    unfold SM.spot at h
    cases hf : freeI (M.w x) with
    | none =>
      rw [hf] at h
      obtain ⟨pre, post, h1, h2, h3⟩ := spot_split h
      refine ⟨x :: pre, post, by rw [h1]; rfl, fun g' hg' => ?_, h3⟩
      rcases List.mem_cons.1 hg' with rfl | hg'
      · exact hf
      · exact h2 g' hg'
    | some j =>
      rw [hf] at h
      simp only [Option.some.injEq, Prod.mk.injEq] at h
      obtain ⟨rfl, rfl⟩ := h
      exact ⟨[], r, rfl, (fun _ h => by cases h), hf⟩
theorem free_noE {w : Nat} (h : freeI w = none) : ∀ i, i < 8 → byteN w i ≠ 128 ∧ byteN w i ≠ 254 := fun i hi => by
  unfold freeI at h
  have := (List.find?_eq_none.1 h) i (List.mem_range.2 hi)
  have h2 : ¬ (byteN w i = 128 ∨ byteN w i = 254) := fun e => this (decide_eq_true e)
  exact ⟨fun e => h2 (.inl e), fun e => h2 (.inr e)⟩
theorem noE_of {w : Nat} (h : ∀ i, i < 8 → byteN w i ≠ 128) : hasE w = false := by
  cases he : hasE w with
  | false => rfl
  | true =>
    obtain ⟨i, hi, e⟩ := (hasE_iff w).1 he
    exact absurd e (h i hi)
theorem noE_at {w : Nat} (h : hasE w = false) : ∀ i, i < 8 → byteN w i ≠ 128 := fun i hi e => by
  have := (hasE_iff w).2 ⟨i, hi, e⟩
  rw [h] at this
  cases this
theorem spot_none {M : SM} : ∀ {l : List Nat}, M.spot l = none → ∀ g ∈ l, freeI (M.w g) = none
  | [], _, _, h => by cases h
  | x :: r, h, g, hg => by
    unfold SM.spot at h
    cases hf : freeI (M.w x) with
    | some j => rw [hf] at h; cases h
    | none =>
      rw [hf] at h
      rcases List.mem_cons.1 hg with rfl | hg
      · exact hf
      · exact spot_none h g hg
theorem spot_some {M : SM} {K : Value → Prop} (h : M.Inv K) (key : ByteArray) : ∃ g i, M.spot (M.gs key) = some (g, i) := by
  cases hs : M.spot (M.gs key) with
  | some p => exact ⟨p.1, p.2, rfl⟩
  | none =>
    exfalso
    have hall : ∀ p, p < 8 * M.ws.length → M.byte p < 128 := fun p hp => by
      have h1 := spot_none hs (p / 8) (gs_all h.fit key (p / 8) (by omega))
      have h2 := free_noE h1 (p % 8) (Nat.mod_lt _ (by decide))
      rcases h.bytes p hp with h' | h' | h'
      · exact h'
      · exact absurd h' h2.1
      · exact absurd h' h2.2
    have hc : (List.range (8 * M.ws.length)).countP (fun p => decide (M.byte p < 128)) = 8 * M.ws.length := by
      rw [List.countP_eq_length.2 fun p hp => decide_eq_true (hall p (List.mem_range.1 hp)), List.length_range]
    have h1 := h.keys
    have h2 := h.load
    have h3 := good_range h.fit.good
    rw [hc] at h1
    omega

theorem gs_congr {M M' : SM} (h0 : M'.k0 = M.k0) (h1 : M'.k1 = M.k1) (h2 : M'.ws.length = M.ws.length) (key : ByteArray) : M'.gs key = M.gs key := by
  unfold SM.gs SM.hash
  rw [h0, h1, h2]
theorem what_congr {M M' : SM} (h0 : M'.k0 = M.k0) (h1 : M'.k1 = M.k1) (key : ByteArray) : M'.what key = M.what key := by
  unfold SM.what SM.hash
  rw [h0, h1]

/-- A word's byte turned: the bytes of all places. -/
theorem byte_set (M M' : SM) (g i c : Nat) (hg : g < M.ws.length) (hi : i < 8) (hc : c < 256) (hw : M'.ws = M.ws.set g (putN (M.w g) i c)) (p : Nat) : M'.byte p = if p = 8 * g + i then c else M.byte p := by
  have h8 : p % 8 < 8 := Nat.mod_lt _ (by decide)
  have h1 : M'.w (p / 8) = if p / 8 = g then putN (M.w g) i c else M.w (p / 8) := by
    show M'.ws.getD (p / 8) 0 = _
    rw [hw, getD_set]
    by_cases h : p / 8 = g
    · rw [if_pos ⟨h, hg⟩, if_pos h]
    · rw [if_neg (fun e => h e.1), if_neg h]; rfl
  unfold SM.byte
  rw [h1]
  by_cases h : p / 8 = g
  · rw [if_pos h, put_byte _ _ _ hc _ h8]
    by_cases h' : p % 8 = i
    · rw [if_pos h', if_pos (by omega)]
    · rw [if_neg h', if_neg (by omega), h]
  · rw [if_neg h, if_neg (by omega)]
theorem hasE_set (M M' : SM) (g i c : Nat) (hg : g < M.ws.length) (hi : i < 8) (hc : c < 256) (hw : M'.ws = M.ws.set g (putN (M.w g) i c)) (g' : Nat) (hE : hasE (M.w g') = false) (h' : c ≠ 128 ∨ g' ≠ g) : hasE (M'.w g') = false := by
  refine noE_of fun j hj => ?_
  have h1 := byte_set M M' g i c hg hi hc hw (8 * g' + j)
  rw [byte_at M' g' j hj, byte_at M g' j hj] at h1
  rw [h1]
  have h2 := noE_at hE j hj
  split
  · rcases h' with h' | h'
    · exact h'
    · omega
  · exact h2

theorem inv_lay {M : SM} {K : Value → Prop} (h : M.Inv K) {key : ByteArray} {v : Value} {g i : Nat} (hs : M.spot (M.gs key) = some (g, i)) (hn : M.find key = none) (hl : M.n + M.t < 7 * M.ws.length) (hv : K v) (hk : key.size < 140737488355328) :
    (M.lay key v g i).Inv K ∧ (∀ k' v', (M.lay key v g i).Has k' v' ↔ (k' = key ∧ v' = v) ∨ M.Has k' v') ∧ ((M.byte (8 * g + i) = 128 ∧ (M.lay key v g i).t = M.t) ∨ (M.byte (8 * g + i) = 254 ∧ (M.lay key v g i).t + 1 = M.t)) := by
  obtain ⟨pre, post, hgs, hpre, hfree⟩ := spot_split hs
  have hg : g < M.ws.length := SM.gs_lt h.fit key g (by rw [hgs]; exact List.mem_append_right _ List.mem_cons_self)
  obtain ⟨hi, hfb⟩ := freeI_lt hfree
  have hr := good_range h.fit.good
  have hwl := M.what_lt key
  have hw : (M.lay key v g i).ws = M.ws.set g (putN (M.w g) i (M.what key)) := rfl
  have hlen : (M.lay key v g i).ws.length = M.ws.length := by rw [hw, List.length_set]
  have hbyte := byte_set M (M.lay key v g i) g i (M.what key) hg hi (by omega) hw
  have hp0 : 8 * g + i < 8 * M.ws.length := by omega
  have hsl : ∀ p, (M.lay key v g i).s p = if p = 8 * g + i then (key, v) else M.s p := fun p => lay_s M key v g i p (by rw [h.fit.slots]; exact hp0)
  have hgsc : ∀ k, (M.lay key v g i).gs k = M.gs k := gs_congr rfl rfl hlen
  have hwc : ∀ k, (M.lay key v g i).what k = M.what k := what_congr rfl rfl
  have hEs : ∀ g', hasE (M.w g') = false → hasE ((M.lay key v g i).w g') = false := fun g' hE => hasE_set M _ g i _ hg hi (by omega) hw g' hE (.inl (by omega))
  have hfb' : M.byte (8 * g + i) = 128 ∨ M.byte (8 * g + i) = 254 := by rw [byte_at M g i hi]; exact hfb
  have hn0 := h.keys
  have ht0 := h.tombs
  have cK := count_turn (8 * M.ws.length) (8 * g + i) hp0 (fun p => decide (M.byte p < 128)) (fun p => decide ((M.lay key v g i).byte p < 128)) (fun q _ hq => by rw [hbyte q, if_neg hq])
  have cT := count_turn (8 * M.ws.length) (8 * g + i) hp0 (fun p => decide (M.byte p = 254)) (fun p => decide ((M.lay key v g i).byte p = 254)) (fun q _ hq => by rw [hbyte q, if_neg hq])
  simp only [hbyte (8 * g + i), if_pos] at cK cT
  rw [decide_eq_false (by omega : ¬ M.byte (8 * g + i) < 128), decide_eq_true hwl, ← hn0] at cK
  rw [decide_eq_false (by omega : ¬ M.what key = 254), ← ht0] at cT
  simp only [Bool.toNat_false, Bool.toNat_true, Nat.add_zero] at cK cT
  have htt : (M.byte (8 * g + i) = 128 ∧ (M.lay key v g i).t = M.t) ∨ (M.byte (8 * g + i) = 254 ∧ (M.lay key v g i).t + 1 = M.t) := by
    have e1 : (M.lay key v g i).t = if byteN (M.w g) i = 254 then M.t - 1 else M.t := rfl
    rw [byte_at M g i hi] at cT ⊢
    rcases hfb with hb | hb
    · refine .inl ⟨hb, ?_⟩
      rw [e1, if_neg (by omega)]
    · refine .inr ⟨hb, ?_⟩
      rw [e1, if_pos hb]
      rw [decide_eq_true hb] at cT
      simp only [Bool.toNat_true] at cT
      omega
  have hfill : ∀ p, p < 8 * M.ws.length → (M.lay key v g i).byte p < 128 → p = 8 * g + i ∨ M.byte p < 128 := fun p _ hb => by
    rw [hbyte p] at hb
    by_cases e : p = 8 * g + i
    · exact .inl e
    · rw [if_neg e] at hb; exact .inr hb
  refine ⟨⟨fit_lay h.fit key v g i hg hi hk (by have := h.load; omega), ?_, ?_, ?_, ?_, ?_, ?_, ?_, ?_⟩, ?_, htt⟩
  · intro p hp
    have hp' : p < M.ss.length := by simpa [SM.lay] using hp
    rw [hsl p]
    split
    · exact hv
    · exact h.typed p hp'
  · intro p hp
    rw [hlen] at hp
    rw [hbyte p]
    split
    · exact .inl hwl
    · exact h.bytes p hp
  · rw [hlen]
    show M.n + 1 = _
    omega
  · rw [hlen]
    rcases htt with ⟨hb, e⟩ | ⟨hb, e⟩
    · rw [decide_eq_false (by omega : ¬ M.byte (8 * g + i) = 254)] at cT
      simp only [Bool.toNat_false, Nat.add_zero] at cT
      omega
    · rw [decide_eq_true hb] at cT
      simp only [Bool.toNat_true] at cT
      omega
  · rw [hlen]
    show M.n + 1 + _ ≤ _
    rcases htt with ⟨hb, e⟩ | ⟨hb, e⟩ <;> omega
  · intro p hp hb
    rw [hlen] at hp
    rw [hsl p, hwc]
    by_cases e : p = 8 * g + i
    · rw [if_pos e, hbyte p, if_pos e]
    · rw [if_neg e]
      have hb' := hb
      rw [hbyte p, if_neg e] at hb' ⊢
      exact h.what p hp hb'
  · intro p hp hb
    rw [hlen] at hp
    rw [hsl p, hgsc]
    by_cases e : p = 8 * g + i
    · rw [if_pos e]
      refine ⟨pre, post, by rw [e, show (8 * g + i) / 8 = g by omega]; exact hgs, fun g' hg' => hEs g' (noE_of fun j hj => (free_noE (hpre g' hg') j hj).1)⟩
    · rw [if_neg e]
      rw [hbyte p, if_neg e] at hb
      obtain ⟨pr, po, h1, h2⟩ := h.reach p hp hb
      exact ⟨pr, po, h1, fun g' hg' => hEs g' (h2 g' hg')⟩
  · intro p q hp hq hbp hbq hkk
    rw [hlen] at hp hq
    rw [hsl p, hsl q] at hkk
    rw [hbyte p] at hbp
    rw [hbyte q] at hbq
    by_cases e : p = 8 * g + i
    · by_cases e' : q = 8 * g + i
      · omega
      · rw [if_pos e, if_neg e'] at hkk
        rw [if_neg e'] at hbq
        have := (find_is h).2 ⟨hq, hbq, hkk.symm⟩
        rw [hn] at this
        cases this
    · by_cases e' : q = 8 * g + i
      · rw [if_neg e, if_pos e'] at hkk
        rw [if_neg e] at hbp
        have := (find_is h).2 ⟨hp, hbp, hkk⟩
        rw [hn] at this
        cases this
      · rw [if_neg e, if_neg e'] at hkk
        rw [if_neg e] at hbp
        rw [if_neg e'] at hbq
        exact h.one p q hp hq hbp hbq hkk
  · intro k' v'
    constructor
    · rintro ⟨p, h1, h2, h3⟩
      rw [hlen] at h1
      rw [hsl p] at h3
      by_cases e : p = 8 * g + i
      · rw [if_pos e] at h3
        cases h3
        exact .inl ⟨rfl, rfl⟩
      · rw [if_neg e] at h3
        rw [hbyte p, if_neg e] at h2
        exact .inr ⟨p, h1, h2, h3⟩
    · rintro (⟨rfl, rfl⟩ | ⟨p, h1, h2, h3⟩)
      · exact ⟨8 * g + i, by rw [hlen]; exact hp0, by rw [hbyte, if_pos rfl]; exact hwl, by rw [hsl, if_pos rfl]⟩
      · have e : p ≠ 8 * g + i := fun e => by subst e; omega
        exact ⟨p, by rw [hlen]; exact h1, by rw [hbyte, if_neg e]; exact h2, by rw [hsl, if_neg e]; exact h3⟩
end Go.Proofs.YtkjnifipepiahaaDoor
