import Derived.Test.YtiobfdfmfgjpfaaDoorSwP2To
/-
  Plain mathematics: the groups of a hash are unlike one another, and all of them are told.
-/
namespace Go.Proofs.YtiobfdfmfgjpfaaDoor
open Go.RowKit

theorem odd_coprime {d k : Nat} (h : d % 2 = 1) : Nat.Coprime (2 ^ k) d := by
  refine Nat.Coprime.pow_left k ?_
  show Nat.gcd 2 d = 1
  rw [Nat.gcd_rec, h]
  rfl
/-- Two steps that tell the same group are one. -/
theorem tri_inj (m x i j : Nat) (hij : i ≤ j) (hj : j < 2 ^ m) (h : (x + i * (i + 1) / 2) % 2 ^ m = (x + j * (j + 1) / 2) % 2 ^ m) : i = j := by
  have ei : 2 * (i * (i + 1) / 2) = i * (i + 1) := by
    rcases Nat.mod_two_eq_zero_or_one i with h' | h'
    · exact Nat.mul_div_cancel' (Nat.dvd_trans (Nat.dvd_of_mod_eq_zero h') (Nat.dvd_mul_right _ _))
    · exact Nat.mul_div_cancel' (Nat.dvd_trans (Nat.dvd_of_mod_eq_zero (by omega : (i + 1) % 2 = 0)) (Nat.dvd_mul_left _ _))
  have ej : 2 * (j * (j + 1) / 2) = j * (j + 1) := by
    rcases Nat.mod_two_eq_zero_or_one j with h' | h'
    · exact Nat.mul_div_cancel' (Nat.dvd_trans (Nat.dvd_of_mod_eq_zero h') (Nat.dvd_mul_right _ _))
    · exact Nat.mul_div_cancel' (Nat.dvd_trans (Nat.dvd_of_mod_eq_zero (by omega : (j + 1) % 2 = 0)) (Nat.dvd_mul_left _ _))
  obtain ⟨d, rfl⟩ : ∃ d, j = i + d := ⟨j - i, by omega⟩
  have eq : (i + d) * (i + d + 1) = i * (i + 1) + d * (d + 2 * i + 1) := by
    simp only [Nat.add_mul, Nat.mul_add, Nat.mul_one]
    rw [Nat.mul_comm d i, show i * d = d * i from Nat.mul_comm _ _, show d * (2 * i) = d * i + d * i by rw [Nat.mul_comm 2 i, ← Nat.mul_assoc, Nat.mul_two]]
    omega
  generalize i * (i + 1) / 2 = a at *
  generalize (i + d) * (i + d + 1) / 2 = b at *
  have hdiv : 2 ^ m ∣ (x + b) - (x + a) := Nat.dvd_of_mod_eq_zero (Nat.sub_mod_eq_zero_of_mod_eq h.symm)
  have hprod : 2 ^ (m + 1) ∣ d * (d + 2 * i + 1) := by
    have e : d * (d + 2 * i + 1) = ((x + b) - (x + a)) * 2 := by omega
    rw [e, Nat.pow_succ]
    exact Nat.mul_dvd_mul_right hdiv 2
  have hp : 2 ^ (m + 1) = 2 ^ m * 2 := Nat.pow_succ _ _
  rcases Nat.eq_zero_or_pos d with h0 | h0
  · omega
  · exfalso
    rcases Nat.mod_two_eq_zero_or_one d with h' | h'
    · have := Nat.le_of_dvd h0 (Nat.Coprime.dvd_of_dvd_mul_right (odd_coprime (by omega)) hprod)
      omega
    · rw [Nat.mul_comm] at hprod
      have := Nat.le_of_dvd (by omega) (Nat.Coprime.dvd_of_dvd_mul_right (odd_coprime h') hprod)
      omega

theorem good_pow {g : Nat} (h : isGood (g : Int) = true) : ∃ m, m < 11 ∧ g = 2 ^ m := by
  have := good_mem h
  rcases this with h | h | h | h | h | h | h | h | h | h | h
  · exact ⟨0, by decide, by omega⟩
  · exact ⟨1, by decide, by omega⟩
  · exact ⟨2, by decide, by omega⟩
  · exact ⟨3, by decide, by omega⟩
  · exact ⟨4, by decide, by omega⟩
  · exact ⟨5, by decide, by omega⟩
  · exact ⟨6, by decide, by omega⟩
  · exact ⟨7, by decide, by omega⟩
  · exact ⟨8, by decide, by omega⟩
  · exact ⟨9, by decide, by omega⟩
  · exact ⟨10, by decide, by omega⟩
theorem atN_inj {x g i j : Nat} (h : isGood (g : Int) = true) (hi : i < g) (hj : j < g) (he : atN x i g = atN x j g) : i = j := by
  obtain ⟨m, _, rfl⟩ := good_pow h
  unfold atN at he
  rcases Nat.le_total i j with h' | h'
  · exact tri_inj m _ i j h' hj he
  · exact (tri_inj m _ j i h' hi he.symm).symm
theorem grp_map (y : Int) (g : Nat) (hg : isGood (g : Int) = true) : (grpL y g).map Int.toNat = (List.range g).map fun i => atN y.toNat i g := by
  unfold grpL endI
  rw [if_pos hg, Int.toNat_natCast, List.map_map]
  refine List.map_congr_left fun i hi => ?_
  have hi := List.mem_range.1 hi
  show (atI y i g).toNat = _
  unfold atI
  rw [if_pos ⟨hg, by omega, by omega⟩]
  simp
theorem gs_def (M : SM) (key : ByteArray) : ∃ y : Int, M.gs key = (grpL y M.ws.length).map Int.toNat := ⟨M.hash key / 128, rfl⟩
theorem gs_map {M : SM} (h : M.Fit) (key : ByteArray) : ∃ x, M.gs key = (List.range M.ws.length).map fun i => atN x i M.ws.length := by
  obtain ⟨y, hy⟩ := gs_def M key
  exact ⟨y.toNat, hy.trans (grp_map y _ h.good)⟩
theorem map_nodup {f : Nat → Nat} {n : Nat} (h : ∀ i j, i < n → j < n → f i = f j → i = j) : ((List.range n).map f).Nodup := by
  induction n with
  | zero => simp
  | succ n ih =>
    rw [List.range_succ, List.map_append, List.map_singleton, List.nodup_append]
    refine ⟨ih fun i j hi hj => h i j (by omega) (by omega), by simp, fun a ha b hb => ?_⟩
    obtain ⟨i, hi, rfl⟩ := List.mem_map.1 ha
    have hi := List.mem_range.1 hi
    rw [List.mem_singleton.1 hb]
    intro e
    have := h i n (by omega) (by omega) e
    omega
theorem nodup_le : ∀ (n : Nat) (l : List Nat), l.Nodup → (∀ x ∈ l, x < n) → l.length ≤ n
  | 0, l, _, h => by
    cases l with
    | nil => exact Nat.le_refl _
    | cons a r => exact absurd (h a List.mem_cons_self) (Nat.not_lt_zero _)
  | n + 1, l, hn, h => by
    by_cases hm : n ∈ l
    · have h1 := nodup_le n (l.erase n) (hn.erase n) fun x hx => by
        have := (hn.mem_erase_iff.1 hx)
        have h2 := h x this.2
        have h3 := this.1
        omega
      rw [List.length_erase_of_mem hm] at h1
      omega
    · have := nodup_le n l hn fun x hx => by
        have h2 := h x hx
        have : x ≠ n := fun e => hm (e ▸ hx)
        omega
      omega
theorem gs_nodup {M : SM} (h : M.Fit) (key : ByteArray) : (M.gs key).Nodup := by
  obtain ⟨x, hx⟩ := gs_map h key
  rw [hx]
  exact map_nodup fun i j hi hj he => atN_inj h.good hi hj he
theorem gs_all {M : SM} (h : M.Fit) (key : ByteArray) (g : Nat) (hg : g < M.ws.length) : g ∈ M.gs key := by
  have hn := gs_nodup h key
  have hl : (M.gs key).length = M.ws.length := by
    obtain ⟨x, hx⟩ := gs_map h key
    rw [hx]; simp
  refine Decidable.byContradiction fun hm => ?_
  have := nodup_le M.ws.length (g :: M.gs key) (List.nodup_cons.2 ⟨hm, hn⟩) fun x hx => by
    rcases List.mem_cons.1 hx with rfl | hx
    · exact hg
    · exact SM.gs_lt h key x hx
  rw [List.length_cons, hl] at this
  omega
end Go.Proofs.YtiobfdfmfgjpfaaDoor

/-
  Plain mathematics of the map: it is a map. No function of the program is named here.
-/
namespace Go.Proofs.YtiobfdfmfgjpfaaDoor
open Go.RowKit

/-- The byte of a place. -/
def SM.byte (M : SM) (p : Nat) : Nat := byteN (M.w (p / 8)) (p % 8)

/-- Is there an empty slot in group g? -/
theorem hasE_iff (w : Nat) : hasE w = true ↔ ∃ i, i < 8 ∧ byteN w i = 128 := by
  unfold hasE
  simp [List.any_eq_true]

structure SM.Inv (M : SM) (K : Value → Prop) : Prop where
  fit : M.Fit
  typed : M.Typed K
  bytes : ∀ p, p < 8 * M.ws.length → M.byte p < 128 ∨ M.byte p = 128 ∨ M.byte p = 254
  keys : M.n = (List.range (8 * M.ws.length)).countP fun p => decide (M.byte p < 128)
  tombs : M.t = (List.range (8 * M.ws.length)).countP fun p => decide (M.byte p = 254)
  load : M.n + M.t ≤ 7 * M.ws.length
  what : ∀ p, p < 8 * M.ws.length → M.byte p < 128 → M.byte p = M.what (M.s p).1
  reach : ∀ p, p < 8 * M.ws.length → M.byte p < 128 → ∃ pre post, M.gs (M.s p).1 = pre ++ p / 8 :: post ∧ ∀ g ∈ pre, hasE (M.w g) = false
  one : ∀ p q, p < 8 * M.ws.length → q < 8 * M.ws.length → M.byte p < 128 → M.byte q < 128 → (M.s p).1 = (M.s q).1 → p = q

theorem byte_at (M : SM) (g i : Nat) (hi : i < 8) : M.byte (8 * g + i) = byteN (M.w g) i := by
  unfold SM.byte
  rw [show (8 * g + i) / 8 = g by omega, show (8 * g + i) % 8 = i by omega]

/-- A slot that is turned changes the count of what it was and of what it is. -/
theorem count_turn (N p : Nat) (hp : p < N) (f f' : Nat → Bool) (h : ∀ q, q < N → q ≠ p → f' q = f q) : (List.range N).countP f' + (f p).toNat = (List.range N).countP f + (f' p).toNat := by
  induction N with
  | zero => omega
  | succ N ih =>
    rw [List.range_succ, List.countP_append, List.countP_append, List.countP_singleton, List.countP_singleton]
    by_cases e : p = N
    · subst e
      have : (List.range p).countP f' = (List.range p).countP f := by
        refine List.countP_congr fun q hq => ?_
        have hq := List.mem_range.1 hq
        rw [h q (by omega) (by omega)]
      rw [this]
      cases f p <;> cases f' p <;> simp
    · have h1 := ih (by omega) fun q hq hne => h q (by omega) hne
      rw [h N (by omega) (fun e' => e e'.symm)]
      omega

/-- What is full is found. -/
theorem find_full {M : SM} {K : Value → Prop} (h : M.Inv K) {p : Nat} (hp : p < 8 * M.ws.length) (hb : M.byte p < 128) : M.find (M.s p).1 = some p := by
  obtain ⟨pre, post, hgs, hpre⟩ := h.reach p hp hb
  have hnd := gs_nodup h.fit (M.s p).1
  have hlt := SM.gs_lt h.fit (M.s p).1
  unfold SM.find
  rw [hgs] at hnd hlt ⊢
  clear hgs
  generalize hkey : (M.s p).1 = key at *
  have hwhat : M.byte p = M.what key := by rw [← hkey]; exact h.what p hp hb
  have hone : ∀ g i, g < M.ws.length → i < 8 → byteN (M.w g) i = M.what key → (M.s (8 * g + i)).1 = key → 8 * g + i = p := fun g i hg hi hw hs => by
    refine h.one _ _ (by omega) hp ?_ hb (by rw [hs, hkey])
    rw [byte_at M g i hi, hw]
    exact M.what_lt key
  induction pre with
  | nil =>
    rw [List.nil_append, SM.findG]
    have : M.hit key (p / 8) = some (p % 8) := by
      unfold SM.hit
      rw [List.find?_eq_some_iff_append]
      refine ⟨?_, List.range (p % 8), (List.range (8 - (p % 8 + 1))).map (p % 8 + 1 + ·), ?_, fun i hi => ?_⟩
      · refine decide_eq_true ⟨hwhat, ?_⟩
        rw [show 8 * (p / 8) + p % 8 = p by omega]
        exact hkey
      · have h8 : p % 8 < 8 := Nat.mod_lt _ (by decide)
        rw [show List.range 8 = List.range ((p % 8 + 1) + (8 - (p % 8 + 1))) by congr 1; omega, List.range_add, List.range_succ, List.append_assoc]
        rfl
      · have hi := List.mem_range.1 hi
        rw [Bool.not_eq_true']
        refine decide_eq_false fun ⟨h1, h2⟩ => ?_
        have := hone (p / 8) i (by omega) (by omega) h1 h2
        omega
    rw [this]
    show some (8 * (p / 8) + p % 8) = some p
    congr 1
    omega
  | cons g r ih =>
    rw [List.cons_append] at hnd hlt ⊢
    rw [SM.findG]
    have hg : g < M.ws.length := hlt g List.mem_cons_self
    have : M.hit key g = none := by
      unfold SM.hit
      rw [List.find?_eq_none]
      intro i hi hd
      have hi := List.mem_range.1 hi
      obtain ⟨h1, h2⟩ := of_decide_eq_true hd
      have he := hone g i hg hi h1 h2
      have hgp : g = p / 8 := by omega
      have := (List.nodup_cons.1 hnd).1
      rw [hgp] at this
      exact this (List.mem_append_right _ List.mem_cons_self)
    rw [this, hpre g List.mem_cons_self]
    exact ih (fun g' hg' => hpre g' (List.mem_cons_of_mem _ hg')) (List.nodup_cons.1 hnd).2 fun g' hg' => hlt g' (List.mem_cons_of_mem _ hg')
theorem find_is {M : SM} {K : Value → Prop} (h : M.Inv K) {key : ByteArray} {p : Nat} : M.find key = some p ↔ p < 8 * M.ws.length ∧ M.byte p < 128 ∧ (M.s p).1 = key := by
  constructor
  · intro hf
    obtain ⟨h1, h2, h3, h4⟩ := find_some h.fit hf
    rw [h.fit.slots] at h1
    refine ⟨h1, ?_, h4⟩
    show byteN (M.w (p / 8)) (p % 8) < 128
    rw [h3]
    exact M.what_lt key
  · rintro ⟨h1, h2, rfl⟩
    exact find_full h h1 h2
end Go.Proofs.YtiobfdfmfgjpfaaDoor

/-
  Plain mathematics of the map: placing a key keeps what every map is.
-/
namespace Go.Proofs.YtiobfdfmfgjpfaaDoor
open Go.RowKit

/-- A key with its value is there. -/
def SM.Has (M : SM) (k : ByteArray) (v : Value) : Prop := ∃ p, p < 8 * M.ws.length ∧ M.byte p < 128 ∧ M.s p = (k, v)
theorem has_find {M : SM} {K : Value → Prop} (h : M.Inv K) {k : ByteArray} {v : Value} : M.Has k v ↔ ∃ p, M.find k = some p ∧ (M.s p).2 = v := by
  constructor
  · rintro ⟨p, h1, h2, h3⟩
    exact ⟨p, (find_is h).2 ⟨h1, h2, by rw [h3]⟩, by rw [h3]⟩
  · rintro ⟨p, h1, rfl⟩
    obtain ⟨a, b, rfl⟩ := (find_is h).1 h1
    exact ⟨p, a, b, rfl⟩
theorem find_none_iff {M : SM} {K : Value → Prop} (h : M.Inv K) {k : ByteArray} : M.find k = none ↔ ∀ v, ¬ M.Has k v := by
  constructor
  · intro hn v hv
    obtain ⟨p, hp, _⟩ := (has_find h).1 hv
    rw [hn] at hp
    cases hp
  · intro hn
    cases hf : M.find k with
    | none => rfl
    | some p => exact absurd ((has_find h).2 ⟨p, hf, rfl⟩) (hn _)
theorem has_one {M : SM} {K : Value → Prop} (h : M.Inv K) {k : ByteArray} {v v' : Value} (h1 : M.Has k v) (h2 : M.Has k v') : v = v' := by
  obtain ⟨p, hp, rfl⟩ := (has_find h).1 h1
  obtain ⟨q, hq, rfl⟩ := (has_find h).1 h2
  rw [hp] at hq
  cases hq
  rfl

theorem spot_split {M : SM} : ∀ {l : List Nat} {g i : Nat}, M.spot l = some (g, i) → ∃ pre post, l = pre ++ g :: post ∧ (∀ g' ∈ pre, freeI (M.w g') = none) ∧ freeI (M.w g) = some i
  | [], _, _, h => by cases h
  | x :: r, g, i, h => by
    unfold SM.spot at h
    cases hf : freeI (M.w x) with
    | none =>
      rw [hf] at h
      obtain ⟨pre, post, h1, h2, h3⟩ := spot_split h
      refine ⟨x :: pre, post, by rw [h1]; rfl, fun g' hg' => ?_, h3⟩
      rcases List.mem_cons.1 hg' with rfl | hg'
      · exact hf
      · exact h2 g' hg'
    | some j =>
      rw [hf] at h
      simp only [Option.some.injEq, Prod.mk.injEq] at h
      obtain ⟨rfl, rfl⟩ := h
      exact ⟨[], r, rfl, (fun _ h => by cases h), hf⟩
theorem free_noE {w : Nat} (h : freeI w = none) : ∀ i, i < 8 → byteN w i ≠ 128 ∧ byteN w i ≠ 254 := fun i hi => by
  unfold freeI at h
  have := (List.find?_eq_none.1 h) i (List.mem_range.2 hi)
  have h2 : ¬ (byteN w i = 128 ∨ byteN w i = 254) := fun e => this (decide_eq_true e)
  exact ⟨fun e => h2 (.inl e), fun e => h2 (.inr e)⟩
theorem noE_of {w : Nat} (h : ∀ i, i < 8 → byteN w i ≠ 128) : hasE w = false := by
  cases he : hasE w with
  | false => rfl
  | true =>
    obtain ⟨i, hi, e⟩ := (hasE_iff w).1 he
    exact absurd e (h i hi)
theorem noE_at {w : Nat} (h : hasE w = false) : ∀ i, i < 8 → byteN w i ≠ 128 := fun i hi e => by
  have := (hasE_iff w).2 ⟨i, hi, e⟩
  rw [h] at this
  cases this
theorem spot_none {M : SM} : ∀ {l : List Nat}, M.spot l = none → ∀ g ∈ l, freeI (M.w g) = none
  | [], _, _, h => by cases h
  | x :: r, h, g, hg => by
    unfold SM.spot at h
    cases hf : freeI (M.w x) with
    | some j => rw [hf] at h; cases h
    | none =>
      rw [hf] at h
      rcases List.mem_cons.1 hg with rfl | hg
      · exact hf
      · exact spot_none h g hg
theorem spot_some {M : SM} {K : Value → Prop} (h : M.Inv K) (key : ByteArray) : ∃ g i, M.spot (M.gs key) = some (g, i) := by
  cases hs : M.spot (M.gs key) with
  | some p => exact ⟨p.1, p.2, rfl⟩
  | none =>
    exfalso
    have hall : ∀ p, p < 8 * M.ws.length → M.byte p < 128 := fun p hp => by
      have h1 := spot_none hs (p / 8) (gs_all h.fit key (p / 8) (by omega))
      have h2 := free_noE h1 (p % 8) (Nat.mod_lt _ (by decide))
      rcases h.bytes p hp with h' | h' | h'
      · exact h'
      · exact absurd h' h2.1
      · exact absurd h' h2.2
    have hc : (List.range (8 * M.ws.length)).countP (fun p => decide (M.byte p < 128)) = 8 * M.ws.length := by
      rw [List.countP_eq_length.2 fun p hp => decide_eq_true (hall p (List.mem_range.1 hp)), List.length_range]
    have h1 := h.keys
    have h2 := h.load
    have h3 := good_range h.fit.good
    rw [hc] at h1
    omega

theorem gs_congr {M M' : SM} (h0 : M'.k0 = M.k0) (h1 : M'.k1 = M.k1) (h2 : M'.ws.length = M.ws.length) (key : ByteArray) : M'.gs key = M.gs key := by
  unfold SM.gs SM.hash
  rw [h0, h1, h2]
theorem what_congr {M M' : SM} (h0 : M'.k0 = M.k0) (h1 : M'.k1 = M.k1) (key : ByteArray) : M'.what key = M.what key := by
  unfold SM.what SM.hash
  rw [h0, h1]

/-- A word's byte turned: the bytes of all places. -/
theorem byte_set (M M' : SM) (g i c : Nat) (hg : g < M.ws.length) (hi : i < 8) (hc : c < 256) (hw : M'.ws = M.ws.set g (putN (M.w g) i c)) (p : Nat) : M'.byte p = if p = 8 * g + i then c else M.byte p := by
  have h8 : p % 8 < 8 := Nat.mod_lt _ (by decide)
  have h1 : M'.w (p / 8) = if p / 8 = g then putN (M.w g) i c else M.w (p / 8) := by
    show M'.ws.getD (p / 8) 0 = _
    rw [hw, getD_set]
    by_cases h : p / 8 = g
    · rw [if_pos ⟨h, hg⟩, if_pos h]
    · rw [if_neg (fun e => h e.1), if_neg h]; rfl
  unfold SM.byte
  rw [h1]
  by_cases h : p / 8 = g
  · rw [if_pos h, put_byte _ _ _ hc _ h8]
    by_cases h' : p % 8 = i
    · rw [if_pos h', if_pos (by omega)]
    · rw [if_neg h', if_neg (by omega), h]
  · rw [if_neg h, if_neg (by omega)]
theorem hasE_set (M M' : SM) (g i c : Nat) (hg : g < M.ws.length) (hi : i < 8) (hc : c < 256) (hw : M'.ws = M.ws.set g (putN (M.w g) i c)) (g' : Nat) (hE : hasE (M.w g') = false) (h' : c ≠ 128 ∨ g' ≠ g) : hasE (M'.w g') = false := by
  refine noE_of fun j hj => ?_
  have h1 := byte_set M M' g i c hg hi hc hw (8 * g' + j)
  rw [byte_at M' g' j hj, byte_at M g' j hj] at h1
  rw [h1]
  have h2 := noE_at hE j hj
  split
  · rcases h' with h' | h'
    · exact h'
    · omega
  · exact h2

theorem inv_lay {M : SM} {K : Value → Prop} (h : M.Inv K) {key : ByteArray} {v : Value} {g i : Nat} (hs : M.spot (M.gs key) = some (g, i)) (hn : M.find key = none) (hl : M.n + M.t < 7 * M.ws.length) (hv : K v) (hk : key.size < 140737488355328) :
    (M.lay key v g i).Inv K ∧ (∀ k' v', (M.lay key v g i).Has k' v' ↔ (k' = key ∧ v' = v) ∨ M.Has k' v') ∧ ((M.byte (8 * g + i) = 128 ∧ (M.lay key v g i).t = M.t) ∨ (M.byte (8 * g + i) = 254 ∧ (M.lay key v g i).t + 1 = M.t)) := by
  obtain ⟨pre, post, hgs, hpre, hfree⟩ := spot_split hs
  have hg : g < M.ws.length := SM.gs_lt h.fit key g (by rw [hgs]; exact List.mem_append_right _ List.mem_cons_self)
  obtain ⟨hi, hfb⟩ := freeI_lt hfree
  have hr := good_range h.fit.good
  have hwl := M.what_lt key
  have hw : (M.lay key v g i).ws = M.ws.set g (putN (M.w g) i (M.what key)) := rfl
  have hlen : (M.lay key v g i).ws.length = M.ws.length := by rw [hw, List.length_set]
  have hbyte := byte_set M (M.lay key v g i) g i (M.what key) hg hi (by omega) hw
  have hp0 : 8 * g + i < 8 * M.ws.length := by omega
  have hsl : ∀ p, (M.lay key v g i).s p = if p = 8 * g + i then (key, v) else M.s p := fun p => lay_s M key v g i p (by rw [h.fit.slots]; exact hp0)
  have hgsc : ∀ k, (M.lay key v g i).gs k = M.gs k := gs_congr rfl rfl hlen
  have hwc : ∀ k, (M.lay key v g i).what k = M.what k := what_congr rfl rfl
  have hEs : ∀ g', hasE (M.w g') = false → hasE ((M.lay key v g i).w g') = false := fun g' hE => hasE_set M _ g i _ hg hi (by omega) hw g' hE (.inl (by omega))
  have hfb' : M.byte (8 * g + i) = 128 ∨ M.byte (8 * g + i) = 254 := by rw [byte_at M g i hi]; exact hfb
  have hn0 := h.keys
  have ht0 := h.tombs
  have cK := count_turn (8 * M.ws.length) (8 * g + i) hp0 (fun p => decide (M.byte p < 128)) (fun p => decide ((M.lay key v g i).byte p < 128)) (fun q _ hq => by rw [hbyte q, if_neg hq])
  have cT := count_turn (8 * M.ws.length) (8 * g + i) hp0 (fun p => decide (M.byte p = 254)) (fun p => decide ((M.lay key v g i).byte p = 254)) (fun q _ hq => by rw [hbyte q, if_neg hq])
  simp only [hbyte (8 * g + i), if_pos] at cK cT
  rw [decide_eq_false (by omega : ¬ M.byte (8 * g + i) < 128), decide_eq_true hwl, ← hn0] at cK
  rw [decide_eq_false (by omega : ¬ M.what key = 254), ← ht0] at cT
  simp only [Bool.toNat_false, Bool.toNat_true, Nat.add_zero] at cK cT
  have htt : (M.byte (8 * g + i) = 128 ∧ (M.lay key v g i).t = M.t) ∨ (M.byte (8 * g + i) = 254 ∧ (M.lay key v g i).t + 1 = M.t) := by
    have e1 : (M.lay key v g i).t = if byteN (M.w g) i = 254 then M.t - 1 else M.t := rfl
    rw [byte_at M g i hi] at cT ⊢
    rcases hfb with hb | hb
    · refine .inl ⟨hb, ?_⟩
      rw [e1, if_neg (by omega)]
    · refine .inr ⟨hb, ?_⟩
      rw [e1, if_pos hb]
      rw [decide_eq_true hb] at cT
      simp only [Bool.toNat_true] at cT
      omega
  have hfill : ∀ p, p < 8 * M.ws.length → (M.lay key v g i).byte p < 128 → p = 8 * g + i ∨ M.byte p < 128 := fun p _ hb => by
    rw [hbyte p] at hb
    by_cases e : p = 8 * g + i
    · exact .inl e
    · rw [if_neg e] at hb; exact .inr hb
  refine ⟨⟨fit_lay h.fit key v g i hg hi hk (by have := h.load; omega), ?_, ?_, ?_, ?_, ?_, ?_, ?_, ?_⟩, ?_, htt⟩
  · intro p hp
    have hp' : p < M.ss.length := by simpa [SM.lay] using hp
    rw [hsl p]
    split
    · exact hv
    · exact h.typed p hp'
  · intro p hp
    rw [hlen] at hp
    rw [hbyte p]
    split
    · exact .inl hwl
    · exact h.bytes p hp
  · rw [hlen]
    show M.n + 1 = _
    omega
  · rw [hlen]
    rcases htt with ⟨hb, e⟩ | ⟨hb, e⟩
    · rw [decide_eq_false (by omega : ¬ M.byte (8 * g + i) = 254)] at cT
      simp only [Bool.toNat_false, Nat.add_zero] at cT
      omega
    · rw [decide_eq_true hb] at cT
      simp only [Bool.toNat_true] at cT
      omega
  · rw [hlen]
    show M.n + 1 + _ ≤ _
    rcases htt with ⟨hb, e⟩ | ⟨hb, e⟩ <;> omega
  · intro p hp hb
    rw [hlen] at hp
    rw [hsl p, hwc]
    by_cases e : p = 8 * g + i
    · rw [if_pos e, hbyte p, if_pos e]
    · rw [if_neg e]
      have hb' := hb
      rw [hbyte p, if_neg e] at hb' ⊢
      exact h.what p hp hb'
  · intro p hp hb
    rw [hlen] at hp
    rw [hsl p, hgsc]
    by_cases e : p = 8 * g + i
    · rw [if_pos e]
      refine ⟨pre, post, by rw [e, show (8 * g + i) / 8 = g by omega]; exact hgs, fun g' hg' => hEs g' (noE_of fun j hj => (free_noE (hpre g' hg') j hj).1)⟩
    · rw [if_neg e]
      rw [hbyte p, if_neg e] at hb
      obtain ⟨pr, po, h1, h2⟩ := h.reach p hp hb
      exact ⟨pr, po, h1, fun g' hg' => hEs g' (h2 g' hg')⟩
  · intro p q hp hq hbp hbq hkk
    rw [hlen] at hp hq
    rw [hsl p, hsl q] at hkk
    rw [hbyte p] at hbp
    rw [hbyte q] at hbq
    by_cases e : p = 8 * g + i
    · by_cases e' : q = 8 * g + i
      · omega
      · rw [if_pos e, if_neg e'] at hkk
        rw [if_neg e'] at hbq
        have := (find_is h).2 ⟨hq, hbq, hkk.symm⟩
        rw [hn] at this
        cases this
    · by_cases e' : q = 8 * g + i
      · rw [if_neg e, if_pos e'] at hkk
        rw [if_neg e] at hbp
        have := (find_is h).2 ⟨hp, hbp, hkk⟩
        rw [hn] at this
        cases this
      · rw [if_neg e, if_neg e'] at hkk
        rw [if_neg e] at hbp
        rw [if_neg e'] at hbq
        exact h.one p q hp hq hbp hbq hkk
  · intro k' v'
    constructor
    · rintro ⟨p, h1, h2, h3⟩
      rw [hlen] at h1
      rw [hsl p] at h3
      by_cases e : p = 8 * g + i
      · rw [if_pos e] at h3
        cases h3
        exact .inl ⟨rfl, rfl⟩
      · rw [if_neg e] at h3
        rw [hbyte p, if_neg e] at h2
        exact .inr ⟨p, h1, h2, h3⟩
    · rintro (⟨rfl, rfl⟩ | ⟨p, h1, h2, h3⟩)
      · exact ⟨8 * g + i, by rw [hlen]; exact hp0, by rw [hbyte, if_pos rfl]; exact hwl, by rw [hsl, if_pos rfl]⟩
      · have e : p ≠ 8 * g + i := fun e => by subst e; omega
        exact ⟨p, by rw [hlen]; exact h1, by rw [hbyte, if_neg e]; exact h2, by rw [hsl, if_neg e]; exact h3⟩
end Go.Proofs.YtiobfdfmfgjpfaaDoor
