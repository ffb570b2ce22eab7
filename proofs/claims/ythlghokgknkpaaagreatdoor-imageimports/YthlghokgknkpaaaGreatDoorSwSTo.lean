import Derived.Test.YthlghokgknkpaaaGreatDoorTriTo
/-
  Plain mathematics of the map: it is a map. No function of the program is named here.
-/
namespace Go.Proofs.YthlghokgknkpaaaGreatDoor
open Go.RowKit

/-- The byte of a place. -/
def SM.byte (M : SM) (p : Nat) : Nat := byteN (M.w (p / 8)) (p % 8)

/-- Is there an empty slot in group g? -/
theorem hasE_iff (w : Nat) : hasE w = true ↔ ∃ i, i < 8 ∧ byteN w i = 128 := by
  unfold hasE
  simp [List.any_eq_true]

structure SM.Inv (M : SM) (K : Value → Prop) : Prop where
  fit : M.Fit
  typed : M.Typed K
  bytes : ∀ p, p < 8 * M.ws.length → M.byte p < 128 ∨ M.byte p = 128 ∨ M.byte p = 254
  keys : M.n = (List.range (8 * M.ws.length)).countP fun p => decide (M.byte p < 128)
  tombs : M.t = (List.range (8 * M.ws.length)).countP fun p => decide (M.byte p = 254)
  load : M.n + M.t ≤ 7 * M.ws.length
  what : ∀ p, p < 8 * M.ws.length → M.byte p < 128 → M.byte p = M.what (M.s p).1
  reach : ∀ p, p < 8 * M.ws.length → M.byte p < 128 → ∃ pre post, M.gs (M.s p).1 = pre ++ p / 8 :: post ∧ ∀ g ∈ pre, hasE (M.w g) = false
  one : ∀ p q, p < 8 * M.ws.length → q < 8 * M.ws.length → M.byte p < 128 → M.byte q < 128 → (M.s p).1 = (M.s q).1 → p = q

theorem byte_at (M : SM) (g i : Nat) (hi : i < 8) : M.byte (8 * g + i) = byteN (M.w g) i := by
  unfold SM.byte
  rw [show (8 * g + i) / 8 = g by omega, show (8 * g + i) % 8 = i by omega]

/-- A slot that is turned changes the count of what it was and of what it is. -/
theorem count_turn (N p : Nat) (hp : p < N) (f f' : Nat → Bool) (h : ∀ q, q < N → q ≠ p → f' q = f q) : (List.range N).countP f' + (f p).toNat = (List.range N).countP f + (f' p).toNat := by
  induction N with
  | zero => omega
  | succ N ih =>
    rw [List.range_succ, List.countP_append, List.countP_append, List.countP_singleton, List.countP_singleton]
    by_cases e : p = N
    · subst e
      have : (List.range p).countP f' = (List.range p).countP f := by
        refine List.countP_congr fun q hq => ?_
        have hq := List.mem_range.1 hq
        rw [h q (by omega) (by omega)]
      rw [this]
      cases f p <;> cases f' p <;> simp
    · have h1 := ih (by omega) fun q hq hne => h q (by omega) hne
      rw [h N (by omega) (fun e' => e e'.symm)]
      omega

/-- What is full is found. -/
theorem find_full {M : SM} {K : Value → Prop} (h : M.Inv K) {p : Nat} (hp : p < 8 * M.ws.length) (hb : M.byte p < 128) : M.find (M.s p).1 = some p := by
  obtain ⟨pre, post, hgs, hpre⟩ := h.reach p hp hb
  have hnd := gs_nodup h.fit (M.s p).1
  have hlt := SM.gs_lt h.fit (M.s p).1
  unfold SM.find
  rw [hgs] at hnd hlt ⊢
  clear hgs
  generalize hkey : (M.s p).1 = key at *
  have hwhat : M.byte p = M.what key := by rw [← hkey]; exact h.what p hp hb
  have hone : ∀ g i, g < M.ws.length → i < 8 → byteN (M.w g) i = M.what key → (M.s (8 * g + i)).1 = key → 8 * g + i = p := fun g i hg hi hw hs => by
    refine h.one _ _ (by omega) hp ?_ hb (by rw [hs, hkey])
    rw [byte_at M g i hi, hw]
    exact M.what_lt key
  induction pre with
  | nil =>
    rw [List.nil_append, SM.findG]
    have : M.hit key (p / 8) = some (p % 8) := by
      unfold SM.hit
      rw [List.find?_eq_some_iff_append]
      refine ⟨?_, List.range (p % 8), (List.range (8 - (p % 8 + 1))).map (p % 8 + 1 + ·), ?_, fun i hi => ?_⟩
      · refine decide_eq_true ⟨hwhat, ?_⟩
        rw [show 8 * (p / 8) + p % 8 = p by omega]
        exact hkey
      · have h8 : p % 8 < 8 := Nat.mod_lt _ (by decide)
        rw [show List.range 8 = List.range ((p % 8 + 1) + (8 - (p % 8 + 1))) by congr 1; omega, List.range_add, List.range_succ, List.append_assoc]
        rfl
      · have hi := List.mem_range.1 hi
        rw [Bool.not_eq_true']
        refine decide_eq_false fun ⟨h1, h2⟩ => ?_
        have := hone (p / 8) i (by omega) (by omega) h1 h2
        omega
    rw [this]
    show some (8 * (p / 8) + p % 8) = some p
    congr 1
    omega
  | cons g r ih =>
    rw [List.cons_append] at hnd hlt ⊢
    rw [SM.findG]
    have hg : g < M.ws.length := hlt g List.mem_cons_self
    have : M.hit key g = none := by
      unfold SM.hit
      rw [List.find?_eq_none]
      intro i hi hd
      have hi := List.mem_range.1 hi
      obtain ⟨h1, h2⟩ := of_decide_eq_true hd
      have he := hone g i hg hi h1 h2
      have hgp : g = p / 8 := by omega
      have := (List.nodup_cons.1 hnd).1
      rw [hgp] at this
      exact this (List.mem_append_right _ List.mem_cons_self)
    rw [this, hpre g List.mem_cons_self]
    exact ih (fun g' hg' => hpre g' (List.mem_cons_of_mem _ hg')) (List.nodup_cons.1 hnd).2 fun g' hg' => hlt g' (List.mem_cons_of_mem _ hg')
theorem find_is {M : SM} {K : Value → Prop} (h : M.Inv K) {key : ByteArray} {p : Nat} : M.find key = some p ↔ p < 8 * M.ws.length ∧ M.byte p < 128 ∧ (M.s p).1 = key := by
  constructor
  · intro hf
    obtain ⟨h1, h2, h3, h4⟩ := find_some h.fit hf
    rw [h.fit.slots] at h1
    refine ⟨h1, ?_, h4⟩
    show byteN (M.w (p / 8)) (p % 8) < 128
    rw [h3]
    exact M.what_lt key
  · rintro ⟨h1, h2, rfl⟩
    exact find_full h h1 h2
end Go.Proofs.YthlghokgknkpaaaGreatDoor

/-
  Plain mathematics of the map: placing a key keeps what every map is.
-/
namespace Go.Proofs.YthlghokgknkpaaaGreatDoor
open Go.RowKit

/-- A key with its value is there. -/
def SM.Has (M : SM) (k : ByteArray) (v : Value) : Prop := ∃ p, p < 8 * M.ws.length ∧ M.byte p < 128 ∧ M.s p = (k, v)
theorem has_find {M : SM} {K : Value → Prop} (h : M.Inv K) {k : ByteArray} {v : Value} : M.Has k v ↔ ∃ p, M.find k = some p ∧ (M.s p).2 = v := by
  constructor
  · rintro ⟨p, h1, h2, h3⟩
    exact ⟨p, (find_is h).2 ⟨h1, h2, by rw [h3]⟩, by rw [h3]⟩
  · rintro ⟨p, h1, rfl⟩
    obtain ⟨a, b, rfl⟩ := (find_is h).1 h1
    exact ⟨p, a, b, rfl⟩
theorem find_none_iff {M : SM} {K : Value → Prop} (h : M.Inv K) {k : ByteArray} : M.find k = none ↔ ∀ v, ¬ M.Has k v := by
  constructor
  · intro hn v hv
    obtain ⟨p, hp, _⟩ := (has_find h).1 hv
    rw [hn] at hp
    cases hp
  · intro hn
    cases hf : M.find k with
    | none => rfl
    | some p => exact absurd ((has_find h).2 ⟨p, hf, rfl⟩) (hn _)
theorem has_one {M : SM} {K : Value → Prop} (h : M.Inv K) {k : ByteArray} {v v' : Value} (h1 : M.Has k v) (h2 : M.Has k v') : v = v' := by
  obtain ⟨p, hp, rfl⟩ := (has_find h).1 h1
  obtain ⟨q, hq, rfl⟩ := (has_find h).1 h2
  rw [hp] at hq
  cases hq
  rfl

theorem spot_split {M : SM} : ∀ {l : List Nat} {g i : Nat}, M.spot l = some (g, i) → ∃ pre post, l = pre ++ g :: post ∧ (∀ g' ∈ pre, freeI (M.w g') = none) ∧ freeI (M.w g) = some i
  | [], _, _, h => by cases h
  | x :: r, g, i, h => by
    unfold SM.spot at h
    cases hf : freeI (M.w x) with
    | none =>
      rw [hf] at h
      obtain ⟨pre, post, h1, h2, h3⟩ := spot_split h
      refine ⟨x :: pre, post, by rw [h1]; rfl, fun g' hg' => ?_, h3⟩
      rcases List.mem_cons.1 hg' with rfl | hg'
      · exact hf
      · exact h2 g' hg'
    | some j =>
      rw [hf] at h
      simp only [Option.some.injEq, Prod.mk.injEq] at h
      obtain ⟨rfl, rfl⟩ := h
      exact ⟨[], r, rfl, (fun _ h => by cases h), hf⟩
theorem free_noE {w : Nat} (h : freeI w = none) : ∀ i, i < 8 → byteN w i ≠ 128 ∧ byteN w i ≠ 254 := fun i hi => by
  unfold freeI at h
  have := (List.find?_eq_none.1 h) i (List.mem_range.2 hi)
  have h2 : ¬ (byteN w i = 128 ∨ byteN w i = 254) := fun e => this (decide_eq_true e)
  exact ⟨fun e => h2 (.inl e), fun e => h2 (.inr e)⟩
theorem noE_of {w : Nat} (h : ∀ i, i < 8 → byteN w i ≠ 128) : hasE w = false := by
  cases he : hasE w with
  | false => rfl
  | true =>
    obtain ⟨i, hi, e⟩ := (hasE_iff w).1 he
    exact absurd e (h i hi)
theorem noE_at {w : Nat} (h : hasE w = false) : ∀ i, i < 8 → byteN w i ≠ 128 := fun i hi e => by
  have := (hasE_iff w).2 ⟨i, hi, e⟩
  rw [h] at this
  cases this
theorem spot_none {M : SM} : ∀ {l : List Nat}, M.spot l = none → ∀ g ∈ l, freeI (M.w g) = none
  | [], _, _, h => by cases h
  | x :: r, h, g, hg => by
    unfold SM.spot at h
    cases hf : freeI (M.w x) with
    | some j => rw [hf] at h; cases h
    | none =>
      rw [hf] at h
      rcases List.mem_cons.1 hg with rfl | hg
      · exact hf
      · exact spot_none h g hg
theorem spot_some {M : SM} {K : Value → Prop} (h : M.Inv K) (key : ByteArray) : ∃ g i, M.spot (M.gs key) = some (g, i) := by
  cases hs : M.spot (M.gs key) with
  | some p => exact ⟨p.1, p.2, rfl⟩
  | none =>
    exfalso
    have hall : ∀ p, p < 8 * M.ws.length → M.byte p < 128 := fun p hp => by
      have h1 := spot_none hs (p / 8) (gs_all h.fit key (p / 8) (by omega))
      have h2 := free_noE h1 (p % 8) (Nat.mod_lt _ (by decide))
      rcases h.bytes p hp with h' | h' | h'
      · exact h'
      · exact absurd h' h2.1
      · exact absurd h' h2.2
    have hc : (List.range (8 * M.ws.length)).countP (fun p => decide (M.byte p < 128)) = 8 * M.ws.length := by
      rw [List.countP_eq_length.2 fun p hp => decide_eq_true (hall p (List.mem_range.1 hp)), List.length_range]
    have h1 := h.keys
    have h2 := h.load
    have h3 := good_range h.fit.good
    rw [hc] at h1
    omega

theorem gs_congr {M M' : SM} (h0 : M'.k0 = M.k0) (h1 : M'.k1 = M.k1) (h2 : M'.ws.length = M.ws.length) (key : ByteArray) : M'.gs key = M.gs key := by
  unfold SM.gs SM.hash
  rw [h0, h1, h2]
theorem what_congr {M M' : SM} (h0 : M'.k0 = M.k0) (h1 : M'.k1 = M.k1) (key : ByteArray) : M'.what key = M.what key := by
  unfold SM.what SM.hash
  rw [h0, h1]

/-- A word's byte turned: the bytes of all places. -/
theorem byte_set (M M' : SM) (g i c : Nat) (hg : g < M.ws.length) (hi : i < 8) (hc : c < 256) (hw : M'.ws = M.ws.set g (putN (M.w g) i c)) (p : Nat) : M'.byte p = if p = 8 * g + i then c else M.byte p := by
  have h8 : p % 8 < 8 := Nat.mod_lt _ (by decide)
  have h1 : M'.w (p / 8) = if p / 8 = g then putN (M.w g) i c else M.w (p / 8) := by
    show M'.ws.getD (p / 8) 0 = _
    rw [hw, getD_set]
    by_cases h : p / 8 = g
    · rw [if_pos ⟨h, hg⟩, if_pos h]
    · rw [if_neg (fun e => h e.1), if_neg h]; rfl
  unfold SM.byte
  rw [h1]
  by_cases h : p / 8 = g
  · rw [if_pos h, put_byte _ _ _ hc _ h8]
    by_cases h' : p % 8 = i
    · rw [if_pos h', if_pos (by omega)]
    · rw [if_neg h', if_neg (by omega), h]
  · rw [if_neg h, if_neg (by omega)]
theorem hasE_set (M M' : SM) (g i c : Nat) (hg : g < M.ws.length) (hi : i < 8) (hc : c < 256) (hw : M'.ws = M.ws.set g (putN (M.w g) i c)) (g' : Nat) (hE : hasE (M.w g') = false) (h' : c ≠ 128 ∨ g' ≠ g) : hasE (M'.w g') = false := by
  refine noE_of fun j hj => ?_
  have h1 := byte_set M M' g i c hg hi hc hw (8 * g' + j)
  rw [byte_at M' g' j hj, byte_at M g' j hj] at h1
  rw [h1]
  have h2 := noE_at hE j hj
  split
  · rcases h' with h' | h'
    · exact h'
    · omega
  · exact h2

theorem inv_lay {M : SM} {K : Value → Prop} (h : M.Inv K) {key : ByteArray} {v : Value} {g i : Nat} (hs : M.spot (M.gs key) = some (g, i)) (hn : M.find key = none) (hl : M.n + M.t < 7 * M.ws.length) (hv : K v) (hk : key.size < 140737488355328) :
    (M.lay key v g i).Inv K ∧ (∀ k' v', (M.lay key v g i).Has k' v' ↔ (k' = key ∧ v' = v) ∨ M.Has k' v') ∧ ((M.byte (8 * g + i) = 128 ∧ (M.lay key v g i).t = M.t) ∨ (M.byte (8 * g + i) = 254 ∧ (M.lay key v g i).t + 1 = M.t)) := by
  obtain ⟨pre, post, hgs, hpre, hfree⟩ := spot_split hs
  have hg : g < M.ws.length := SM.gs_lt h.fit key g (by rw [hgs]; exact List.mem_append_right _ List.mem_cons_self)
  obtain ⟨hi, hfb⟩ := freeI_lt hfree
  have hr := good_range h.fit.good
  have hwl := M.what_lt key
  have hw : (M.lay key v g i).ws = M.ws.set g (putN (M.w g) i (M.what key)) := rfl
  have hlen : (M.lay key v g i).ws.length = M.ws.length := by rw [hw, List.length_set]
  have hbyte := byte_set M (M.lay key v g i) g i (M.what key) hg hi (by omega) hw
  have hp0 : 8 * g + i < 8 * M.ws.length := by omega
  have hsl : ∀ p, (M.lay key v g i).s p = if p = 8 * g + i then (key, v) else M.s p := fun p => lay_s M key v g i p (by rw [h.fit.slots]; exact hp0)
  have hgsc : ∀ k, (M.lay key v g i).gs k = M.gs k := gs_congr rfl rfl hlen
  have hwc : ∀ k, (M.lay key v g i).what k = M.what k := what_congr rfl rfl
  have hEs : ∀ g', hasE (M.w g') = false → hasE ((M.lay key v g i).w g') = false := fun g' hE => hasE_set M _ g i _ hg hi (by omega) hw g' hE (.inl (by omega))
  have hfb' : M.byte (8 * g + i) = 128 ∨ M.byte (8 * g + i) = 254 := by rw [byte_at M g i hi]; exact hfb
  have hn0 := h.keys
  have ht0 := h.tombs
  have cK := count_turn (8 * M.ws.length) (8 * g + i) hp0 (fun p => decide (M.byte p < 128)) (fun p => decide ((M.lay key v g i).byte p < 128)) (fun q _ hq => by rw [hbyte q, if_neg hq])
  have cT := count_turn (8 * M.ws.length) (8 * g + i) hp0 (fun p => decide (M.byte p = 254)) (fun p => decide ((M.lay key v g i).byte p = 254)) (fun q _ hq => by rw [hbyte q, if_neg hq])
  simp only [hbyte (8 * g + i), if_pos] at cK cT
  rw [decide_eq_false (by omega : ¬ M.byte (8 * g + i) < 128), decide_eq_true hwl, ← hn0] at cK
  rw [decide_eq_false (by omega : ¬ M.what key = 254), ← ht0] at cT
  simp only [Bool.toNat_false, Bool.toNat_true, Nat.add_zero] at cK cT
  have htt : (M.byte (8 * g + i) = 128 ∧ (M.lay key v g i).t = M.t) ∨ (M.byte (8 * g + i) = 254 ∧ (M.lay key v g i).t + 1 = M.t) := by
    have e1 : (M.lay key v g i).t = if byteN (M.w g) i = 254 then M.t - 1 else M.t := rfl
    rw [byte_at M g i hi] at cT ⊢
    rcases hfb with hb | hb
    · refine .inl ⟨hb, ?_⟩
      rw [e1, if_neg (by omega)]
    · refine .inr ⟨hb, ?_⟩
      rw [e1, if_pos hb]
      rw [decide_eq_true hb] at cT
      simp only [Bool.toNat_true] at cT
      omega
  have hfill : ∀ p, p < 8 * M.ws.length → (M.lay key v g i).byte p < 128 → p = 8 * g + i ∨ M.byte p < 128 := fun p _ hb => by
    rw [hbyte p] at hb
    by_cases e : p = 8 * g + i
    · exact .inl e
    · rw [if_neg e] at hb; exact .inr hb
  refine ⟨⟨fit_lay h.fit key v g i hg hi hk (by have := h.load; omega), ?_, ?_, ?_, ?_, ?_, ?_, ?_, ?_⟩, ?_, htt⟩
  · intro p hp
    have hp' : p < M.ss.length := by simpa [SM.lay] using hp
    rw [hsl p]
    split
    · exact hv
    · exact h.typed p hp'
  · intro p hp
    rw [hlen] at hp
    rw [hbyte p]
    split
    · exact .inl hwl
    · exact h.bytes p hp
  · rw [hlen]
    show M.n + 1 = _
    omega
  · rw [hlen]
    rcases htt with ⟨hb, e⟩ | ⟨hb, e⟩
    · rw [decide_eq_false (by omega : ¬ M.byte (8 * g + i) = 254)] at cT
      simp only [Bool.toNat_false, Nat.add_zero] at cT
      omega
    · rw [decide_eq_true hb] at cT
      simp only [Bool.toNat_true] at cT
      omega
  · rw [hlen]
    show M.n + 1 + _ ≤ _
    rcases htt with ⟨hb, e⟩ | ⟨hb, e⟩ <;> omega
  · intro p hp hb
    rw [hlen] at hp
    rw [hsl p, hwc]
    by_cases e : p = 8 * g + i
    · rw [if_pos e, hbyte p, if_pos e]
    · rw [if_neg e]
      have hb' := hb
      rw [hbyte p, if_neg e] at hb' ⊢
      exact h.what p hp hb'
  · intro p hp hb
    rw [hlen] at hp
    rw [hsl p, hgsc]
    by_cases e : p = 8 * g + i
    · rw [if_pos e]
      refine ⟨pre, post, by rw [e, show (8 * g + i) / 8 = g by omega]; exact hgs, fun g' hg' => hEs g' (noE_of fun j hj => (free_noE (hpre g' hg') j hj).1)⟩
    · rw [if_neg e]
      rw [hbyte p, if_neg e] at hb
      obtain ⟨pr, po, h1, h2⟩ := h.reach p hp hb
      exact ⟨pr, po, h1, fun g' hg' => hEs g' (h2 g' hg')⟩
  · intro p q hp hq hbp hbq hkk
    rw [hlen] at hp hq
    rw [hsl p, hsl q] at hkk
    rw [hbyte p] at hbp
    rw [hbyte q] at hbq
    by_cases e : p = 8 * g + i
    · by_cases e' : q = 8 * g + i
      · omega
      · rw [if_pos e, if_neg e'] at hkk
        rw [if_neg e'] at hbq
        have := (find_is h).2 ⟨hq, hbq, hkk.symm⟩
        rw [hn] at this
        cases this
    · by_cases e' : q = 8 * g + i
      · rw [if_neg e, if_pos e'] at hkk
        rw [if_neg e] at hbp
        have := (find_is h).2 ⟨hp, hbp, hkk⟩
        rw [hn] at this
        cases this
      · rw [if_neg e, if_neg e'] at hkk
        rw [if_neg e] at hbp
        rw [if_neg e'] at hbq
        exact h.one p q hp hq hbp hbq hkk
  · intro k' v'
    constructor
    · rintro ⟨p, h1, h2, h3⟩
      rw [hlen] at h1
      rw [hsl p] at h3
      by_cases e : p = 8 * g + i
      · rw [if_pos e] at h3
        cases h3
        exact .inl ⟨rfl, rfl⟩
      · rw [if_neg e] at h3
        rw [hbyte p, if_neg e] at h2
        exact .inr ⟨p, h1, h2, h3⟩
    · rintro (⟨rfl, rfl⟩ | ⟨p, h1, h2, h3⟩)
      · exact ⟨8 * g + i, by rw [hlen]; exact hp0, by rw [hbyte, if_pos rfl]; exact hwl, by rw [hsl, if_pos rfl]⟩
      · have e : p ≠ 8 * g + i := fun e => by subst e; omega
        exact ⟨p, by rw [hlen]; exact h1, by rw [hbyte, if_neg e]; exact h2, by rw [hsl, if_neg e]; exact h3⟩
end Go.Proofs.YthlghokgknkpaaaGreatDoor

/-
  Plain mathematics of the map: empty maps, rehashing, Put and Delete.
-/
namespace Go.Proofs.YthlghokgknkpaaaGreatDoor
open Go.RowKit

theorem inv_empty (k0 k1 : Int) (z : Value) (g : Nat) (hg : isGood (g : Int) = true) {K : Value → Prop} (hz : K z) : (SM.empty k0 k1 z g).Inv K ∧ ∀ k v, ¬ (SM.empty k0 k1 z g).Has k v := by
  have hl : (SM.empty k0 k1 z g).ws.length = g := by simp [SM.empty]
  have hr := good_range hg
  have hb : ∀ p, p < 8 * g → (SM.empty k0 k1 z g).byte p = 128 := fun p hp => by
    unfold SM.byte
    rw [empty_w _ _ _ _ _ (by omega)]
    exact noneW_byte ⟨p % 8, Nat.mod_lt _ (by decide)⟩
  have hno : ∀ p, p < 8 * (SM.empty k0 k1 z g).ws.length → ¬ (SM.empty k0 k1 z g).byte p < 128 := fun p hp => by
    rw [hl] at hp
    rw [hb p hp]
    omega
  refine ⟨⟨fit_empty k0 k1 z g hg, typed_empty k0 k1 z g hz, fun p hp => .inr (.inl (hb p (by rwa [hl] at hp))), ?_, ?_, Nat.zero_le _, fun p hp h => absurd h (hno p hp), fun p hp h => absurd h (hno p hp), fun p q hp _ h => absurd h (hno p hp)⟩, ?_⟩
  · refine (List.countP_eq_zero.2 fun p hp => ?_).symm
    have hp := List.mem_range.1 hp
    rw [decide_eq_true_eq]
    exact hno p hp
  · refine (List.countP_eq_zero.2 fun p hp => ?_).symm
    have hp := List.mem_range.1 hp
    rw [hl] at hp
    rw [decide_eq_true_eq, hb p hp]
    decide
  · rintro k v ⟨p, h1, h2, _⟩
    exact hno p h1 h2

theorem inv_place {M : SM} {K : Value → Prop} (h : M.Inv K) {key : ByteArray} {v : Value} (hn : M.find key = none) (hl : M.n + M.t < 7 * M.ws.length) (hv : K v) (hk : key.size < 140737488355328) :
    (M.place key v).Inv K ∧ (∀ k' v', (M.place key v).Has k' v' ↔ (k' = key ∧ v' = v) ∨ M.Has k' v') ∧ (M.place key v).n = M.n + 1 ∧ (M.place key v).t ≤ M.t ∧ (M.place key v).ws.length = M.ws.length ∧ (M.place key v).k0 = M.k0 ∧ (M.place key v).k1 = M.k1 := by
  obtain ⟨g, i, hs⟩ := spot_some h key
  have e : M.place key v = M.lay key v g i := by unfold SM.place; rw [hs]
  obtain ⟨h1, h2, h3⟩ := inv_lay h hs hn hl hv hk
  rw [e]
  refine ⟨h1, h2, rfl, ?_, by simp [SM.lay], rfl, rfl⟩
  rcases h3 with ⟨_, h3⟩ | ⟨_, h3⟩ <;> omega

theorem inv_fold {M : SM} {K : Value → Prop} (hF : M.Fit) (hT : M.Typed K) : ∀ (l : List Nat) (N : SM), N.Inv K → (∀ p ∈ l, p < M.ss.length) → (l.map fun p => (M.s p).1).Nodup → (∀ p ∈ l, ∀ v, ¬ N.Has (M.s p).1 v) → N.n + N.t + l.length < 7 * N.ws.length + 1 →
    (l.foldl (fun N p => N.place (M.s p).1 (M.s p).2) N).Inv K ∧ (∀ k v, (l.foldl (fun N p => N.place (M.s p).1 (M.s p).2) N).Has k v ↔ N.Has k v ∨ ∃ p ∈ l, M.s p = (k, v)) ∧ (l.foldl (fun N p => N.place (M.s p).1 (M.s p).2) N).n = N.n + l.length ∧
      (l.foldl (fun N p => N.place (M.s p).1 (M.s p).2) N).t ≤ N.t ∧ (l.foldl (fun N p => N.place (M.s p).1 (M.s p).2) N).ws.length = N.ws.length ∧ (l.foldl (fun N p => N.place (M.s p).1 (M.s p).2) N).k0 = N.k0 ∧ (l.foldl (fun N p => N.place (M.s p).1 (M.s p).2) N).k1 = N.k1
  | [], N, h, _, _, _, _ => ⟨h, fun k v => ⟨.inl, fun h => h.elim id fun ⟨p, hp, _⟩ => by cases hp⟩, rfl, Nat.le_refl _, rfl, rfl, rfl⟩
  | p :: r, N, h, hp, hnd, hno, hl => by
    rw [List.length_cons] at hl
    rw [List.map_cons, List.nodup_cons] at hnd
    have hps := hp p List.mem_cons_self
    have hfn : N.find (M.s p).1 = none := (find_none_iff h).2 (hno p List.mem_cons_self)
    obtain ⟨i1, i2, i3, i4, i5, i6, i7⟩ := inv_place h hfn (by omega) (hT p hps) (hF.texts p hps)
    obtain ⟨j1, j2, j3, j4, j5, j6, j7⟩ := inv_fold hF hT r (N.place (M.s p).1 (M.s p).2) i1 (fun q hq => hp q (List.mem_cons_of_mem _ hq)) hnd.2 (fun q hq v hv => by
      rcases (i2 _ _).1 hv with ⟨e, _⟩ | hv
      · exact hnd.1 (List.mem_map.2 ⟨q, hq, e⟩)
      · exact hno q (List.mem_cons_of_mem _ hq) v hv) (by omega)
    refine ⟨j1, fun k v => ?_, by rw [List.foldl_cons, j3, i3, List.length_cons]; omega, Nat.le_trans j4 i4, j5.trans i5, j6.trans i6, j7.trans i7⟩
    rw [List.foldl_cons, j2 k v, i2 k v]
    constructor
    · rintro ((⟨rfl, rfl⟩ | h') | ⟨q, hq, e⟩)
      · exact .inr ⟨p, List.mem_cons_self, rfl⟩
      · exact .inl h'
      · exact .inr ⟨q, List.mem_cons_of_mem _ hq, e⟩
    · rintro (h' | ⟨q, hq, e⟩)
      · exact .inl (.inr h')
      · rcases List.mem_cons.1 hq with rfl | hq
        · exact .inl (.inl (by rw [e]; exact ⟨rfl, rfl⟩))
        · exact .inr ⟨q, hq, e⟩

theorem full_mem {M : SM} {p : Nat} : p ∈ M.full ↔ p < 8 * M.ws.length ∧ M.byte p < 128 := by
  unfold SM.full
  rw [List.mem_filter, List.mem_range, decide_eq_true_eq]
  exact Iff.rfl
theorem full_n {M : SM} {K : Value → Prop} (h : M.Inv K) : M.full.length = M.n := by
  rw [h.keys, List.countP_eq_length_filter]
  rfl
theorem nodup_filter_range (n : Nat) (f : Nat → Bool) : ((List.range n).filter f).Nodup := List.nodup_range.sublist List.filter_sublist
theorem map_nodup_on {f : Nat → ByteArray} : ∀ {l : List Nat}, l.Nodup → (∀ p ∈ l, ∀ q ∈ l, f p = f q → p = q) → (l.map f).Nodup
  | [], _, _ => by simp
  | a :: r, hn, h => by
    rw [List.nodup_cons] at hn
    rw [List.map_cons, List.nodup_cons]
    refine ⟨fun hm => ?_, map_nodup_on hn.2 fun p hp q hq => h p (List.mem_cons_of_mem _ hp) q (List.mem_cons_of_mem _ hq)⟩
    obtain ⟨q, hq, e⟩ := List.mem_map.1 hm
    have := h a List.mem_cons_self q (List.mem_cons_of_mem _ hq) e.symm
    subst this
    exact hn.1 hq
theorem keys_nodup {M : SM} {K : Value → Prop} (h : M.Inv K) : (M.full.map fun p => (M.s p).1).Nodup := by
  refine map_nodup_on (nodup_filter_range _ _) fun p hp q hq e => ?_
  obtain ⟨p1, p2⟩ := full_mem.1 hp
  obtain ⟨q1, q2⟩ := full_mem.1 hq
  exact h.one p q p1 q1 p2 q2 e

theorem inv_rehash {M : SM} {K : Value → Prop} (h : M.Inv K) {z : Value} (hz : K z) (hg : isGood (M.size' : Int) = true) (hl : M.n ≤ 7 * M.size') :
    (M.rehash z).Inv K ∧ (∀ k v, (M.rehash z).Has k v ↔ M.Has k v) ∧ (M.rehash z).n = M.n ∧ (M.rehash z).t = 0 ∧ (M.rehash z).ws.length = M.size' ∧ (M.rehash z).k0 = M.k0 ∧ (M.rehash z).k1 = M.k1 := by
  obtain ⟨e1, e2⟩ := inv_empty M.k0 M.k1 z M.size' hg (K := K) hz
  have el : (SM.empty M.k0 M.k1 z M.size').ws.length = M.size' := by simp [SM.empty]
  have en : (SM.empty M.k0 M.k1 z M.size').n = 0 := rfl
  have et : (SM.empty M.k0 M.k1 z M.size').t = 0 := rfl
  obtain ⟨j1, j2, j3, j4, j5, j6, j7⟩ := inv_fold h.fit h.typed M.full _ e1 (full_lt h.fit) (keys_nodup h) (fun p _ v => e2 _ v) (by rw [el, en, et, full_n h]; omega)
  rw [en, full_n h, Nat.zero_add] at j3
  rw [et] at j4
  refine ⟨j1, fun k v => ?_, j3, Nat.le_zero.1 j4, j5.trans el, j6, j7⟩
  refine (j2 k v).trans ?_
  constructor
  · rintro (h' | ⟨p, hp, e⟩)
    · exact absurd h' (e2 k v)
    · obtain ⟨p1, p2⟩ := full_mem.1 hp
      exact ⟨p, p1, p2, e⟩
  · rintro ⟨p, p1, p2, e⟩
    exact .inr ⟨p, full_mem.2 ⟨p1, p2⟩, e⟩

theorem size_good {M : SM} {K : Value → Prop} (h : M.Inv K) (hn : M.n < 2000) (hr : 7 * M.ws.length ≤ M.n + M.t) : isGood (M.size' : Int) = true ∧ M.n < 7 * M.size' := by
  have hl := h.load
  have hg := good_mem h.fit.good
  have hrr := good_range h.fit.good
  unfold SM.size'
  by_cases hc : M.t = 0 ∨ 7 * M.ws.length < 2 * M.n
  · rw [if_pos hc]
    refine ⟨?_, by omega⟩
    have hm : ((2 * M.ws.length : Nat) : Int) ∈ pows := by
      unfold pows
      simp only [List.mem_cons, List.not_mem_nil, or_false]
      omega
    exact decide_eq_true hm
  · rw [if_neg hc]
    exact ⟨h.fit.good, by omega⟩
theorem sane_of_inv {M : SM} {K : Value → Prop} (h : M.Inv K) : M.Sane K := by
  refine ⟨h.fit, h.typed, fun g i hg hi he => ?_, fun g i hg hi he => ?_, fun hr hn => (size_good h hn hr).1⟩
  · rw [h.tombs]
    exact List.countP_pos_iff.2 ⟨8 * g + i, List.mem_range.2 (by omega), decide_eq_true (by rw [byte_at M g i hi]; exact he)⟩
  · rw [h.keys]
    exact List.countP_pos_iff.2 ⟨8 * g + i, List.mem_range.2 (by omega), decide_eq_true (by rw [byte_at M g i hi]; exact he)⟩

/-- The value of a place turned. -/
theorem inv_value {M : SM} {K : Value → Prop} (h : M.Inv K) {key : ByteArray} {v : Value} {p : Nat} (hf : M.find key = some p) (hv : K v) :
    ({ M with ss := M.ss.set p ((M.s p).1, v) } : SM).Inv K ∧ (∀ k' v', ({ M with ss := M.ss.set p ((M.s p).1, v) } : SM).Has k' v' ↔ (k' = key ∧ v' = v) ∨ (k' ≠ key ∧ M.Has k' v')) := by
  obtain ⟨hp, hb, hkey⟩ := (find_is h).1 hf
  have hps : p < M.ss.length := by rw [h.fit.slots]; exact hp
  have hs : ∀ q, ({ M with ss := M.ss.set p ((M.s p).1, v) } : SM).s q = if q = p then ((M.s p).1, v) else M.s q := fun q => by
    show (M.ss.set p ((M.s p).1, v)).getD q _ = _
    rw [getD_set]
    by_cases e : q = p
    · rw [if_pos ⟨e, hps⟩, if_pos e]
    · rw [if_neg (fun e' => e e'.1), if_neg e]; rfl
  have hs1 : ∀ q, (({ M with ss := M.ss.set p ((M.s p).1, v) } : SM).s q).1 = (M.s q).1 := fun q => by
    rw [hs q]
    split
    · rename_i e; rw [e]
    · rfl
  have hby : ∀ q, ({ M with ss := M.ss.set p ((M.s p).1, v) } : SM).byte q = M.byte q := fun _ => rfl
  refine ⟨⟨⟨h.fit.good, by simpa using h.fit.slots, h.fit.words, h.fit.few, fun q hq => ?_⟩, fun q hq => ?_, h.bytes, h.keys, h.tombs, h.load, fun q hq hb' => ?_, fun q hq hb' => ?_, fun q r hq hr' hbq hbr he => ?_⟩, fun k' v' => ?_⟩
  · rw [hs1]
    exact h.fit.texts q (by simpa using hq)
  · rw [hs]
    split
    · exact hv
    · exact h.typed q (by simpa using hq)
  · rw [hs1]
    exact h.what q hq hb'
  · rw [hs1]
    exact h.reach q hq hb'
  · rw [hs1, hs1] at he
    exact h.one q r hq hr' hbq hbr he
  · constructor
    · rintro ⟨q, h1, h2, h3⟩
      rw [hs q] at h3
      by_cases e : q = p
      · rw [if_pos e] at h3
        cases h3
        exact .inl ⟨hkey, rfl⟩
      · rw [if_neg e] at h3
        refine .inr ⟨fun e' => e ?_, q, h1, h2, h3⟩
        refine h.one q p h1 hp h2 hb ?_
        rw [h3, hkey]
        exact e'
    · rintro (⟨rfl, rfl⟩ | ⟨hne, q, h1, h2, h3⟩)
      · exact ⟨p, hp, hb, by rw [hs, if_pos rfl, hkey]⟩
      · have e : q ≠ p := fun e => hne (by rw [← hkey, ← e, h3])
        exact ⟨q, h1, h2, by rw [hs, if_neg e]; exact h3⟩

/-- Put. -/
theorem inv_put {M : SM} {K : Value → Prop} (h : M.Inv K) {key : ByteArray} {v z : Value} (hv : K v) (hz : K z) (hk : key.size < 140737488355328) :
    (M.put key v z).2.2.Inv K ∧ (M.put key v z).2.2.k0 = M.k0 ∧ (M.put key v z).2.2.k1 = M.k1 ∧
    (M.n < 2000 → (M.put key v z).1 = (M.find key).isSome ∧ (M.put key v z).2.1 = 0 ∧ (M.put key v z).2.2.n = (if (M.find key).isSome then M.n else M.n + 1) ∧
      ∀ k' v', (M.put key v z).2.2.Has k' v' ↔ (k' = key ∧ v' = v) ∨ (k' ≠ key ∧ M.Has k' v')) := by
  cases hf : M.find key with
  | some p =>
    have e : M.put key v z = (true, 0, { M with ss := M.ss.set p ((M.s p).1, v) }) := by unfold SM.put; rw [hf]
    rw [e]
    obtain ⟨h1, h2⟩ := inv_value h hf hv
    exact ⟨h1, rfl, rfl, fun _ => ⟨rfl, rfl, rfl, h2⟩⟩
  | none =>
    by_cases hfull : 2000 ≤ M.n
    · have e : M.put key v z = (false, 7, M) := by unfold SM.put; rw [hf]; simp only; rw [if_pos hfull]
      rw [e]
      exact ⟨h, rfl, rfl, fun hn => absurd hn (by omega)⟩
    · have hnot := (find_none_iff h).1 hf
      by_cases hroom : 7 * M.ws.length ≤ M.n + M.t
      · have e : M.put key v z = (false, 0, (M.rehash z).place key v) := by unfold SM.put; rw [hf]; simp only; rw [if_neg hfull, if_pos hroom]
        rw [e]
        obtain ⟨g1, g2⟩ := size_good h (by omega) hroom
        obtain ⟨r1, r2, r3, r4, r5, r6, r7⟩ := inv_rehash h hz g1 (by omega)
        have hf' : (M.rehash z).find key = none := (find_none_iff r1).2 fun v' hv' => hnot v' ((r2 _ _).1 hv')
        obtain ⟨i1, i2, i3, i4, i5, i6, i7⟩ := inv_place r1 hf' (by omega) hv hk
        refine ⟨i1, i6.trans r6, i7.trans r7, fun _ => ⟨rfl, rfl, by rw [i3, r3]; rfl, fun k' v' => ?_⟩⟩
        refine (i2 k' v').trans ?_
        rw [r2]
        constructor
        · rintro (h' | h')
          · exact .inl h'
          · exact .inr ⟨fun e => hnot v' (e ▸ h'), h'⟩
        · rintro (h' | ⟨_, h'⟩)
          · exact .inl h'
          · exact .inr h'
      · have e : M.put key v z = (false, 0, M.place key v) := by unfold SM.put; rw [hf]; simp only; rw [if_neg hfull, if_neg hroom]
        rw [e]
        obtain ⟨i1, i2, i3, i4, i5, i6, i7⟩ := inv_place h hf (by omega) hv hk
        refine ⟨i1, i6, i7, fun _ => ⟨rfl, rfl, by rw [i3]; rfl, fun k' v' => ?_⟩⟩
        refine (i2 k' v').trans ?_
        constructor
        · rintro (h' | h')
          · exact .inl h'
          · exact .inr ⟨fun e => hnot v' (e ▸ h'), h'⟩
        · rintro (h' | ⟨_, h'⟩)
          · exact .inl h'
          · exact .inr h'

/-- Delete. -/
theorem inv_del {M : SM} {K : Value → Prop} (h : M.Inv K) {key : ByteArray} {z : Value} (hz : K z) :
    (M.del key z).2.Inv K ∧ (M.del key z).2.k0 = M.k0 ∧ (M.del key z).2.k1 = M.k1 ∧ (M.del key z).2.ws.length = M.ws.length ∧ (M.del key z).1 = (M.find key).isSome ∧ (M.del key z).2.n + (if (M.find key).isSome then 1 else 0) = M.n ∧
      ∀ k' v', (M.del key z).2.Has k' v' ↔ k' ≠ key ∧ M.Has k' v' := by
  cases hf : M.find key with
  | none =>
    have e : M.del key z = (false, M) := by unfold SM.del; rw [hf]
    rw [e]
    refine ⟨h, rfl, rfl, rfl, rfl, rfl, fun k' v' => ⟨fun h' => ⟨fun e => (find_none_iff h).1 hf v' (e ▸ h'), h'⟩, fun h' => h'.2⟩⟩
  | some p =>
    obtain ⟨hp, hb, hkey⟩ := (find_is h).1 hf
    have hps : p < M.ss.length := by rw [h.fit.slots]; exact hp
    have hg : p / 8 < M.ws.length := by omega
    have hi : p % 8 < 8 := Nat.mod_lt _ (by decide)
    have hp8 : 8 * (p / 8) + p % 8 = p := by omega
    obtain ⟨c, hc⟩ : ∃ c, (if hasE (M.w (p / 8)) then 128 else 254) = c := ⟨_, rfl⟩
    have hc2 : (hasE (M.w (p / 8)) = true ∧ c = 128) ∨ (hasE (M.w (p / 8)) = false ∧ c = 254) := by
      cases hE : hasE (M.w (p / 8)) with
      | true => rw [hE] at hc; exact .inl ⟨rfl, hc.symm⟩
      | false => rw [hE] at hc; exact .inr ⟨rfl, hc.symm⟩
    have hc256 : c < 256 := by omega
    obtain ⟨M', hM'⟩ : ∃ M' : SM, M' = { M with ws := M.ws.set (p / 8) (putN (M.w (p / 8)) (p % 8) c), ss := M.ss.set p (ByteArray.empty, z), n := M.n - 1, t := if hasE (M.w (p / 8)) then M.t else M.t + 1 } := ⟨_, rfl⟩
    have e : M.del key z = (true, M') := by
      unfold SM.del
      rw [hf]
      simp only
      rw [hc, hM']
    rw [e]
    show M'.Inv K ∧ M'.k0 = M.k0 ∧ M'.k1 = M.k1 ∧ M'.ws.length = M.ws.length ∧ true = true ∧ M'.n + 1 = M.n ∧ ∀ k' v', M'.Has k' v' ↔ k' ≠ key ∧ M.Has k' v'
    have hw : M'.ws = M.ws.set (p / 8) (putN (M.w (p / 8)) (p % 8) c) := by rw [hM']
    have hlen : M'.ws.length = M.ws.length := by rw [hw, List.length_set]
    have hsl : M'.ss.length = M.ss.length := by rw [hM']; simp
    have k0e : M'.k0 = M.k0 := by rw [hM']
    have k1e : M'.k1 = M.k1 := by rw [hM']
    have hne : M'.n = M.n - 1 := by rw [hM']
    have hte : M'.t = if hasE (M.w (p / 8)) then M.t else M.t + 1 := by rw [hM']
    have hbyte := byte_set M M' (p / 8) (p % 8) c hg hi hc256 hw
    rw [hp8] at hbyte
    have hs : ∀ q, M'.s q = if q = p then (ByteArray.empty, z) else M.s q := fun q => by
      rw [hM']
      show (M.ss.set p (ByteArray.empty, z)).getD q _ = _
      rw [getD_set]
      by_cases e : q = p
      · rw [if_pos ⟨e, hps⟩, if_pos e]
      · rw [if_neg (fun e' => e e'.1), if_neg e]; rfl
    have hgsc : ∀ k, M'.gs k = M.gs k := gs_congr k0e k1e hlen
    have hwc : ∀ k, M'.what k = M.what k := what_congr k0e k1e
    have hEs : ∀ g', hasE (M.w g') = false → hasE (M'.w g') = false := fun g' hE => by
      refine hasE_set M M' (p / 8) (p % 8) c hg hi hc256 hw g' hE ?_
      rcases hc2 with ⟨h1, h2⟩ | ⟨h1, h2⟩
      · refine .inr fun e => ?_
        rw [e, h1] at hE
        cases hE
      · exact .inl (by omega)
    have hn0 := h.keys
    have ht0 := h.tombs
    have cK := count_turn (8 * M.ws.length) p hp (fun q => decide (M.byte q < 128)) (fun q => decide (M'.byte q < 128)) (fun q _ hq => by rw [hbyte q, if_neg hq])
    have cT := count_turn (8 * M.ws.length) p hp (fun q => decide (M.byte q = 254)) (fun q => decide (M'.byte q = 254)) (fun q _ hq => by rw [hbyte q, if_neg hq])
    simp only [hbyte p, if_pos] at cK cT
    rw [decide_eq_true hb, decide_eq_false (by omega : ¬ c < 128), ← hn0] at cK
    rw [decide_eq_false (by omega : ¬ M.byte p = 254), ← ht0] at cT
    simp only [Bool.toNat_false, Bool.toNat_true, Nat.add_zero] at cK cT
    have hfill : ∀ q, M'.byte q < 128 → q ≠ p ∧ M.byte q < 128 := fun q hq => by
      rw [hbyte q] at hq
      by_cases e : q = p
      · rw [if_pos e] at hq; omega
      · rw [if_neg e] at hq; exact ⟨e, hq⟩
    have htt : (c = 128 ∧ M'.t = M.t) ∨ (c = 254 ∧ M'.t = M.t + 1) := by
      rcases hc2 with ⟨h1, h2⟩ | ⟨h1, h2⟩
      · refine .inl ⟨h2, ?_⟩; rw [hte, h1]; rfl
      · refine .inr ⟨h2, ?_⟩; rw [hte, h1]; rfl
    have hld := h.load
    have hfw := h.fit.few
    refine ⟨⟨⟨by rw [hlen]; exact h.fit.good, by rw [hlen, hsl]; exact h.fit.slots, fun j hj => ?_, ⟨by omega, by have := good_range h.fit.good; omega⟩, fun q hq => ?_⟩, fun q hq => ?_, fun q hq => ?_, ?_, ?_, ?_, fun q hq hb' => ?_, fun q hq hb' => ?_, fun q r hq hr' hbq hbr he => ?_⟩, k0e, k1e, hlen, rfl, ?_, fun k' v' => ?_⟩
    · show M'.ws.getD j 0 < _
      rw [hw, getD_set]
      split
      · exact put_lt _ _ _ hc256
      · exact h.fit.words j (by rwa [hlen] at hj)
    · rw [hs]
      split
      · show (0 : Nat) < _; decide
      · exact h.fit.texts q (by rwa [hsl] at hq)
    · rw [hs]
      split
      · exact hz
      · exact h.typed q (by rwa [hsl] at hq)
    · rw [hlen] at hq
      rw [hbyte q]
      split
      · omega
      · exact h.bytes q hq
    · rw [hlen]; omega
    · rw [hlen]
      rcases htt with ⟨e1, e2⟩ | ⟨e1, e2⟩
      · rw [decide_eq_false (by omega : ¬ c = 254)] at cT
        simp only [Bool.toNat_false, Nat.add_zero] at cT
        omega
      · rw [decide_eq_true e1] at cT
        simp only [Bool.toNat_true] at cT
        omega
    · rw [hlen]
      rcases htt with ⟨e1, e2⟩ | ⟨e1, e2⟩ <;> omega
    · rw [hlen] at hq
      obtain ⟨e, hb2⟩ := hfill q hb'
      rw [hs, if_neg e, hwc, hbyte, if_neg e]
      exact h.what q hq hb2
    · rw [hlen] at hq
      obtain ⟨e, hb2⟩ := hfill q hb'
      rw [hs, if_neg e, hgsc]
      obtain ⟨pr, po, h1, h2⟩ := h.reach q hq hb2
      exact ⟨pr, po, h1, fun g' hg' => hEs g' (h2 g' hg')⟩
    · rw [hlen] at hq hr'
      obtain ⟨e1, hb1⟩ := hfill q hbq
      obtain ⟨e2, hb2⟩ := hfill r hbr
      rw [hs, hs, if_neg e1, if_neg e2] at he
      exact h.one q r hq hr' hb1 hb2 he
    · show M'.n + 1 = M.n
      omega
    · constructor
      · rintro ⟨q, h1, h2, h3⟩
        rw [hlen] at h1
        obtain ⟨e, hb2⟩ := hfill q h2
        rw [hs, if_neg e] at h3
        refine ⟨fun e' => e ?_, q, h1, hb2, h3⟩
        refine h.one q p h1 hp hb2 hb ?_
        rw [h3, hkey]
        exact e'
      · rintro ⟨hnk, q, h1, h2, h3⟩
        have e : q ≠ p := fun e => hnk (by rw [← hkey, ← e, h3])
        exact ⟨q, by rw [hlen]; exact h1, by rw [hbyte, if_neg e]; exact h2, by rw [hs, if_neg e]; exact h3⟩
end Go.Proofs.YthlghokgknkpaaaGreatDoor
