import Derived.Test.YthlghokgknkpaaaDoorSwPTo
/-
  Plain mathematics of the map: what is found lies there.
-/
namespace Go.Proofs.YthlghokgknkpaaaDoor
open Go.RowKit

theorem hit_some {M : SM} {key : ByteArray} {g i : Nat} (h : M.hit key g = some i) : i < 8 ∧ byteN (M.w g) i = M.what key ∧ (M.s (8 * g + i)).1 = key := by
  unfold SM.hit at h
  have h1 := List.mem_range.1 (List.mem_of_find?_eq_some h)
  have h2 := of_decide_eq_true (List.find?_some (p := fun i => decide (byteN (M.w g) i = M.what key ∧ (M.s (8 * g + i)).1 = key)) h)
  exact ⟨h1, h2.1, h2.2⟩
theorem findG_some {M : SM} {key : ByteArray} : ∀ {l : List Nat} {p : Nat}, M.findG key l = some p → ∃ g i, p = 8 * g + i ∧ g ∈ l ∧ i < 8 ∧ byteN (M.w g) i = M.what key ∧ (M.s p).1 = key
  | [], _, h => by cases h
  | x :: r, p, h => by
    unfold SM.findG at h
    cases hh : M.hit key x with
    | some i =>
      rw [hh] at h
      obtain ⟨h1, h2, h3⟩ := hit_some hh
      simp only [Option.some.injEq] at h
      subst h
      exact ⟨x, i, rfl, List.mem_cons_self, h1, h2, h3⟩
    | none =>
      rw [hh] at h
      simp only at h
      split at h
      · cases h
      · obtain ⟨g, i, e1, e2, e3, e4, e5⟩ := findG_some h
        exact ⟨g, i, e1, List.mem_cons_of_mem _ e2, e3, e4, e5⟩
theorem find_some {M : SM} (hF : M.Fit) {key : ByteArray} {p : Nat} (h : M.find key = some p) : p < M.ss.length ∧ p / 8 < M.ws.length ∧ byteN (M.w (p / 8)) (p % 8) = M.what key ∧ (M.s p).1 = key := by
  obtain ⟨g, i, rfl, h2, h3, h4, h5⟩ := findG_some h
  have hg := SM.gs_lt hF key g h2
  rw [hF.slots, show (8 * g + i) / 8 = g by omega, show (8 * g + i) % 8 = i by omega]
  exact ⟨by omega, hg, h4, h5⟩

/-- The values are all of one kind. -/
def SM.Typed (M : SM) (K : Value → Prop) : Prop := ∀ p, p < M.ss.length → K (M.s p).2
theorem typed_place {M : SM} {K : Value → Prop} (hF : M.Fit) (hV : M.Typed K) (key : ByteArray) {v : Value} (hv : K v) : (M.place key v).Typed K := by
  rcases place_cases M key v hF with h | ⟨g, i, hg, hi, _, _, h⟩
  · rw [h]; exact hV
  · rw [h]
    intro p hp
    have hp' : p < M.ss.length := by simpa [SM.lay] using hp
    rw [lay_s M key v g i p (by have := hF.slots; omega)]
    split
    · exact hv
    · exact hV p hp'
theorem typed_empty (k0 k1 : Int) (z : Value) (g : Nat) {K : Value → Prop} (hz : K z) : (SM.empty k0 k1 z g).Typed K := by
  intro p hp
  have hp' : p < 8 * g := by simpa [SM.empty] using hp
  show K ((List.replicate (8 * g) (ByteArray.empty, z)).getD p _).2
  simp [hp']
  exact hz
theorem fold_typed {M : SM} {K : Value → Prop} (hF : M.Fit) (hV : M.Typed K) : ∀ (l : List Nat) (N : SM), (∀ p ∈ l, p < M.ss.length) → N.n + l.length ≤ 100000 → N.Fit → N.NoDel → N.Typed K →
    (l.foldl (fun N p => N.place (M.s p).1 (M.s p).2) N).Typed K
  | [], _, _, _, _, _, h => h
  | p :: r, N, hp, hl, h1, h2, h3 => by
    rw [List.length_cons] at hl
    have ht := hF.texts p (hp p List.mem_cons_self)
    obtain ⟨f1, f2, _⟩ := fit_place h1 (M.s p).1 (M.s p).2 ht (by omega)
    exact fold_typed hF hV r (N.place (M.s p).1 (M.s p).2) (fun q hq => hp q (List.mem_cons_of_mem _ hq)) (by omega) f1 (noDel_place h1 h2 _ _) (typed_place h1 h3 _ (hV p (hp p List.mem_cons_self)))
theorem rehash_fit {M : SM} (hF : M.Fit) (hg : isGood (M.size' : Int) = true) (z : Value) : (M.rehash z).Fit ∧ (M.rehash z).NoDel ∧ (M.rehash z).n ≤ 8192 := by
  have h := re_fit hF hg z M.full (full_lt hF) (by have := full_len hF; omega)
  exact ⟨h.1, h.2.1, Nat.le_trans h.2.2 (full_len hF)⟩
theorem rehash_typed {M : SM} {K : Value → Prop} (hF : M.Fit) (hg : isGood (M.size' : Int) = true) {z : Value} (hV : M.Typed K) (hz : K z) : (M.rehash z).Typed K :=
  fold_typed hF hV M.full _ (full_lt hF) (by have := full_len hF; show 0 + _ ≤ _; omega) (fit_empty _ _ _ _ hg) (noDel_empty _ _ _ _) (typed_empty _ _ _ _ hz)

/-- What Put and Delete ask of a map. -/
structure SM.Sane (M : SM) (K : Value → Prop) : Prop where
  fit : M.Fit
  typed : M.Typed K
  tombs : ∀ g i, g < M.ws.length → i < 8 → byteN (M.w g) i = 254 → 1 ≤ M.t
  some : ∀ g i, g < M.ws.length → i < 8 → byteN (M.w g) i < 128 → 1 ≤ M.n
  room : 7 * M.ws.length ≤ M.n + M.t → M.n < 2000 → isGood (M.size' : Int) = true
end Go.Proofs.YthlghokgknkpaaaDoor

/-
  Plain mathematics: the groups of a hash are unlike one another, and all of them are told.
-/
namespace Go.Proofs.YthlghokgknkpaaaDoor
open Go.RowKit

theorem odd_coprime {d k : Nat} (h : d % 2 = 1) : Nat.Coprime (2 ^ k) d := by
  refine Nat.Coprime.pow_left k ?_
  show Nat.gcd 2 d = 1
  rw [Nat.gcd_rec, h]
  rfl
/-- Two steps that tell the same group are one. -/
theorem tri_inj (m x i j : Nat) (hij : i ≤ j) (hj : j < 2 ^ m) (h : (x + i * (i + 1) / 2) % 2 ^ m = (x + j * (j + 1) / 2) % 2 ^ m) : i = j := by
  have ei : 2 * (i * (i + 1) / 2) = i * (i + 1) := by
    rcases Nat.mod_two_eq_zero_or_one i with h' | h'
    · exact Nat.mul_div_cancel' (Nat.dvd_trans (Nat.dvd_of_mod_eq_zero h') (Nat.dvd_mul_right _ _))
    · exact Nat.mul_div_cancel' (Nat.dvd_trans (Nat.dvd_of_mod_eq_zero (by omega : (i + 1) % 2 = 0)) (Nat.dvd_mul_left _ _))
  have ej : 2 * (j * (j + 1) / 2) = j * (j + 1) := by
    rcases Nat.mod_two_eq_zero_or_one j with h' | h'
    · exact Nat.mul_div_cancel' (Nat.dvd_trans (Nat.dvd_of_mod_eq_zero h') (Nat.dvd_mul_right _ _))
    · exact Nat.mul_div_cancel' (Nat.dvd_trans (Nat.dvd_of_mod_eq_zero (by omega : (j + 1) % 2 = 0)) (Nat.dvd_mul_left _ _))
  obtain ⟨d, rfl⟩ : ∃ d, j = i + d := ⟨j - i, by omega⟩
  have eq : (i + d) * (i + d + 1) = i * (i + 1) + d * (d + 2 * i + 1) := by
    simp only [Nat.add_mul, Nat.mul_add, Nat.mul_one]
    rw [Nat.mul_comm d i, show i * d = d * i from Nat.mul_comm _ _, show d * (2 * i) = d * i + d * i by rw [Nat.mul_comm 2 i, ← Nat.mul_assoc, Nat.mul_two]]
    omega
  generalize i * (i + 1) / 2 = a at *
  generalize (i + d) * (i + d + 1) / 2 = b at *
  have hdiv : 2 ^ m ∣ (x + b) - (x + a) := Nat.dvd_of_mod_eq_zero (Nat.sub_mod_eq_zero_of_mod_eq h.symm)
  have hprod : 2 ^ (m + 1) ∣ d * (d + 2 * i + 1) := by
    have e : d * (d + 2 * i + 1) = ((x + b) - (x + a)) * 2 := by omega
    rw [e, Nat.pow_succ]
    exact Nat.mul_dvd_mul_right hdiv 2
  have hp : 2 ^ (m + 1) = 2 ^ m * 2 := Nat.pow_succ _ _
  rcases Nat.eq_zero_or_pos d with h0 | h0
  · omega
  · exfalso
    rcases Nat.mod_two_eq_zero_or_one d with h' | h'
    · have := Nat.le_of_dvd h0 (Nat.Coprime.dvd_of_dvd_mul_right (odd_coprime (by omega)) hprod)
      omega
    · rw [Nat.mul_comm] at hprod
      have := Nat.le_of_dvd (by omega) (Nat.Coprime.dvd_of_dvd_mul_right (odd_coprime h') hprod)
      omega

theorem good_pow {g : Nat} (h : isGood (g : Int) = true) : ∃ m, m < 11 ∧ g = 2 ^ m := by
  have := good_mem h
  rcases this with h | h | h | h | h | h | h | h | h | h | h
  · exact ⟨0, by decide, by omega⟩
  · exact ⟨1, by decide, by omega⟩
  · exact ⟨2, by decide, by omega⟩
  · exact ⟨3, by decide, by omega⟩
  · exact ⟨4, by decide, by omega⟩
  · exact ⟨5, by decide, by omega⟩
  · exact ⟨6, by decide, by omega⟩
  · exact ⟨7, by decide, by omega⟩
  · exact ⟨8, by decide, by omega⟩
  · exact ⟨9, by decide, by omega⟩
  · exact ⟨10, by decide, by omega⟩
theorem atN_inj {x g i j : Nat} (h : isGood (g : Int) = true) (hi : i < g) (hj : j < g) (he : atN x i g = atN x j g) : i = j := by
  obtain ⟨m, _, rfl⟩ := good_pow h
  unfold atN at he
  rcases Nat.le_total i j with h' | h'
  · exact tri_inj m _ i j h' hj he
  · exact (tri_inj m _ j i h' hi he.symm).symm
theorem grp_map (y : Int) (g : Nat) (hg : isGood (g : Int) = true) : (grpL y g).map Int.toNat = (List.range g).map fun i => atN y.toNat i g := by
  unfold grpL endI
  rw [if_pos hg, Int.toNat_natCast, List.map_map]
  refine List.map_congr_left fun i hi => ?_
  have hi := List.mem_range.1 hi
  show (atI y i g).toNat = _
  unfold atI
  rw [if_pos ⟨hg, by omega, by omega⟩]
  simp
theorem gs_def (M : SM) (key : ByteArray) : ∃ y : Int, M.gs key = (grpL y M.ws.length).map Int.toNat := ⟨M.hash key / 128, rfl⟩
theorem gs_map {M : SM} (h : M.Fit) (key : ByteArray) : ∃ x, M.gs key = (List.range M.ws.length).map fun i => atN x i M.ws.length := by
  obtain ⟨y, hy⟩ := gs_def M key
  exact ⟨y.toNat, hy.trans (grp_map y _ h.good)⟩
theorem map_nodup {f : Nat → Nat} {n : Nat} (h : ∀ i j, i < n → j < n → f i = f j → i = j) : ((List.range n).map f).Nodup := by
  induction n with
  | zero => simp
  | succ n ih =>
    rw [List.range_succ, List.map_append, List.map_singleton, List.nodup_append]
    refine ⟨ih fun i j hi hj => h i j (by omega) (by omega), by simp, fun a ha b hb => ?_⟩
    obtain ⟨i, hi, rfl⟩ := List.mem_map.1 ha
    have hi := List.mem_range.1 hi
    rw [List.mem_singleton.1 hb]
    intro e
    have := h i n (by omega) (by omega) e
    omega
theorem nodup_le : ∀ (n : Nat) (l : List Nat), l.Nodup → (∀ x ∈ l, x < n) → l.length ≤ n
  | 0, l, _, h => by
    cases l with
    | nil => exact Nat.le_refl _
    | cons a r => exact absurd (h a List.mem_cons_self) (Nat.not_lt_zero _)
  | n + 1, l, hn, h => by
    by_cases hm : n ∈ l
    · have h1 := nodup_le n (l.erase n) (hn.erase n) fun x hx => by
        have := (hn.mem_erase_iff.1 hx)
        have h2 := h x this.2
        have h3 := this.1
        omega
      rw [List.length_erase_of_mem hm] at h1
      omega
    · have := nodup_le n l hn fun x hx => by
        have h2 := h x hx
        have : x ≠ n := fun e => hm (e ▸ hx)
        omega
      omega
theorem gs_nodup {M : SM} (h : M.Fit) (key : ByteArray) : (M.gs key).Nodup := by
  obtain ⟨x, hx⟩ := gs_map h key
  rw [hx]
  exact map_nodup fun i j hi hj he => atN_inj h.good hi hj he
theorem gs_all {M : SM} (h : M.Fit) (key : ByteArray) (g : Nat) (hg : g < M.ws.length) : g ∈ M.gs key := by
  have hn := gs_nodup h key
  have hl : (M.gs key).length = M.ws.length := by
    obtain ⟨x, hx⟩ := gs_map h key
    rw [hx]; simp
  refine Decidable.byContradiction fun hm => ?_
  have := nodup_le M.ws.length (g :: M.gs key) (List.nodup_cons.2 ⟨hm, hn⟩) fun x hx => by
    rcases List.mem_cons.1 hx with rfl | hx
    · exact hg
    · exact SM.gs_lt h key x hx
  rw [List.length_cons, hl] at this
  omega
end Go.Proofs.YthlghokgknkpaaaDoor

/-
  Plain mathematics of the map: it is a map. No function of the program is named here.
-/
namespace Go.Proofs.YthlghokgknkpaaaDoor
open Go.RowKit

/-- The byte of a place. -/
def SM.byte (M : SM) (p : Nat) : Nat := byteN (M.w (p / 8)) (p % 8)

/-- Is there an empty slot in group g? -/
theorem hasE_iff (w : Nat) : hasE w = true ↔ ∃ i, i < 8 ∧ byteN w i = 128 := by
  unfold hasE
  simp [List.any_eq_true]

structure SM.Inv (M : SM) (K : Value → Prop) : Prop where
  fit : M.Fit
  typed : M.Typed K
  bytes : ∀ p, p < 8 * M.ws.length → M.byte p < 128 ∨ M.byte p = 128 ∨ M.byte p = 254
  keys : M.n = (List.range (8 * M.ws.length)).countP fun p => decide (M.byte p < 128)
  tombs : M.t = (List.range (8 * M.ws.length)).countP fun p => decide (M.byte p = 254)
  load : M.n + M.t ≤ 7 * M.ws.length
  what : ∀ p, p < 8 * M.ws.length → M.byte p < 128 → M.byte p = M.what (M.s p).1
  reach : ∀ p, p < 8 * M.ws.length → M.byte p < 128 → ∃ pre post, M.gs (M.s p).1 = pre ++ p / 8 :: post ∧ ∀ g ∈ pre, hasE (M.w g) = false
  one : ∀ p q, p < 8 * M.ws.length → q < 8 * M.ws.length → M.byte p < 128 → M.byte q < 128 → (M.s p).1 = (M.s q).1 → p = q

theorem byte_at (M : SM) (g i : Nat) (hi : i < 8) : M.byte (8 * g + i) = byteN (M.w g) i := by
  unfold SM.byte
  rw [show (8 * g + i) / 8 = g by omega, show (8 * g + i) % 8 = i by omega]

/-- A slot that is turned changes the count of what it was and of what it is. -/
theorem count_turn (N p : Nat) (hp : p < N) (f f' : Nat → Bool) (h : ∀ q, q < N → q ≠ p → f' q = f q) : (List.range N).countP f' + (f p).toNat = (List.range N).countP f + (f' p).toNat := by
  induction N with
  | zero => omega
  | succ N ih =>
    rw [List.range_succ, List.countP_append, List.countP_append, List.countP_singleton, List.countP_singleton]
    by_cases e : p = N
    · subst e
      have : (List.range p).countP f' = (List.range p).countP f := by
        refine List.countP_congr fun q hq => ?_
        have hq := List.mem_range.1 hq
        rw [h q (by omega) (by omega)]
      rw [this]
      cases f p <;> cases f' p <;> simp
    · have h1 := ih (by omega) fun q hq hne => h q (by omega) hne
      rw [h N (by omega) (fun e' => e e'.symm)]
      omega

/-- What is full is found. -/
theorem find_full {M : SM} {K : Value → Prop} (h : M.Inv K) {p : Nat} (hp : p < 8 * M.ws.length) (hb : M.byte p < 128) : M.find (M.s p).1 = some p := by
  obtain ⟨pre, post, hgs, hpre⟩ := h.reach p hp hb
  have hnd := gs_nodup h.fit (M.s p).1
  have hlt := SM.gs_lt h.fit (M.s p).1
  unfold SM.find
  rw [hgs] at hnd hlt ⊢
  clear hgs
  generalize hkey : (M.s p).1 = key at *
  have hwhat : M.byte p = M.what key := by rw [← hkey]; exact h.what p hp hb
  have hone : ∀ g i, g < M.ws.length → i < 8 → byteN (M.w g) i = M.what key → (M.s (8 * g + i)).1 = key → 8 * g + i = p := fun g i hg hi hw hs => by
    refine h.one _ _ (by omega) hp ?_ hb (by rw [hs, hkey])
    rw [byte_at M g i hi, hw]
    exact M.what_lt key
  induction pre with
  | nil =>
    rw [List.nil_append, SM.findG]
    have : M.hit key (p / 8) = some (p % 8) := by
      unfold SM.hit
      rw [List.find?_eq_some_iff_append]
      refine ⟨?_, List.range (p % 8), (List.range (8 - (p % 8 + 1))).map (p % 8 + 1 + ·), ?_, fun i hi => ?_⟩
      · refine decide_eq_true ⟨hwhat, ?_⟩
        rw [show 8 * (p / 8) + p % 8 = p by omega]
        exact hkey
      · have h8 : p % 8 < 8 := Nat.mod_lt _ (by decide)
        rw [show List.range 8 = List.range ((p % 8 + 1) + (8 - (p % 8 + 1))) by congr 1; omega, List.range_add, List.range_succ, List.append_assoc]
        rfl
      · have hi := List.mem_range.1 hi
        rw [Bool.not_eq_true']
        refine decide_eq_false fun ⟨h1, h2⟩ => ?_
        have := hone (p / 8) i (by omega) (by omega) h1 h2
        omega
    rw [this]
    show some (8 * (p / 8) + p % 8) = some p
    congr 1
    omega
  | cons g r ih =>
    rw [List.cons_append] at hnd hlt ⊢
    rw [SM.findG]
    have hg : g < M.ws.length := hlt g List.mem_cons_self
    have : M.hit key g = none := by
      unfold SM.hit
      rw [List.find?_eq_none]
      intro i hi hd
      have hi := List.mem_range.1 hi
      obtain ⟨h1, h2⟩ := of_decide_eq_true hd
      have he := hone g i hg hi h1 h2
      have hgp : g = p / 8 := by omega
      have := (List.nodup_cons.1 hnd).1
      rw [hgp] at this
      exact this (List.mem_append_right _ List.mem_cons_self)
    rw [this, hpre g List.mem_cons_self]
    exact ih (fun g' hg' => hpre g' (List.mem_cons_of_mem _ hg')) (List.nodup_cons.1 hnd).2 fun g' hg' => hlt g' (List.mem_cons_of_mem _ hg')
theorem find_is {M : SM} {K : Value → Prop} (h : M.Inv K) {key : ByteArray} {p : Nat} : M.find key = some p ↔ p < 8 * M.ws.length ∧ M.byte p < 128 ∧ (M.s p).1 = key := by
  constructor
  · intro hf
    obtain ⟨h1, h2, h3, h4⟩ := find_some h.fit hf
    rw [h.fit.slots] at h1
    refine ⟨h1, ?_, h4⟩
    show byteN (M.w (p / 8)) (p % 8) < 128
    rw [h3]
    exact M.what_lt key
  · rintro ⟨h1, h2, rfl⟩
    exact find_full h h1 h2
end Go.Proofs.YthlghokgknkpaaaDoor
