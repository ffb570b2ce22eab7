import Derived.Test.YthlghokgknkpaaaGreatDoorSwBTo
/-
  Plain mathematics of the map: what placing keeps. No function of the program is named here.
-/
namespace Go.Proofs.YthlghokgknkpaaaGreatDoor
open Go.RowKit

theorem getD_set {α : Type} (l : List α) (i j : Nat) (x d : α) : (l.set i x).getD j d = if j = i ∧ i < l.length then x else l.getD j d := by
  rw [List.getD_eq_getElem?_getD, List.getD_eq_getElem?_getD, List.getElem?_set]
  by_cases h : i = j
  · subst h
    by_cases h2 : i < l.length
    · simp [h2]
    · simp [h2]
  · rw [if_neg h, if_neg (fun e => h e.1.symm)]

theorem spot_mem {M : SM} : ∀ {l : List Nat} {g i : Nat}, M.spot l = some (g, i) → g ∈ l ∧ freeI (M.w g) = some i
  | [], _, _, h => by cases h
  | x :: r, g, i, h => by
    unfold SM.spot at h
    cases hf : freeI (M.w x) with
    | none =>
      rw [hf] at h
      obtain ⟨h1, h2⟩ := spot_mem h
      exact ⟨List.mem_cons_of_mem _ h1, h2⟩
    | some j =>
      rw [hf] at h
      simp only [Option.some.injEq, Prod.mk.injEq] at h
      obtain ⟨rfl, rfl⟩ := h
      exact ⟨List.mem_cons_self, hf⟩
theorem freeI_lt {w i : Nat} (h : freeI w = some i) : i < 8 ∧ (byteN w i = 128 ∨ byteN w i = 254) := by
  unfold freeI at h
  exact ⟨List.mem_range.1 (List.mem_of_find?_eq_some h), of_decide_eq_true (List.find?_some (p := fun i => decide (byteN w i = 128 ∨ byteN w i = 254)) h)⟩

/-- No slot is deleted. -/
def SM.NoDel (M : SM) : Prop := ∀ g i, g < M.ws.length → i < 8 → byteN (M.w g) i ≠ 254

theorem lay_w (M : SM) (key : ByteArray) (v : Value) (g i j : Nat) (hg : g < M.ws.length) : (M.lay key v g i).w j = if j = g then putN (M.w g) i (M.what key) else M.w j := by
  show (M.ws.set g (putN (M.w g) i (M.what key))).getD j 0 = _
  rw [getD_set]
  by_cases h : j = g
  · rw [if_pos ⟨h, hg⟩, if_pos h]
  · rw [if_neg (fun e => h e.1), if_neg h]
    rfl
theorem lay_s (M : SM) (key : ByteArray) (v : Value) (g i p : Nat) (hg : 8 * g + i < M.ss.length) : (M.lay key v g i).s p = if p = 8 * g + i then (key, v) else M.s p := by
  show (M.ss.set (8 * g + i) (key, v)).getD p _ = _
  rw [getD_set]
  by_cases h : p = 8 * g + i
  · rw [if_pos ⟨h, hg⟩, if_pos h]
  · rw [if_neg (fun e => h e.1), if_neg h]
    rfl

theorem fit_lay {M : SM} (hF : M.Fit) (key : ByteArray) (v : Value) (g i : Nat) (hg : g < M.ws.length) (hi : i < 8) (hk : key.size < 140737488355328) (hn : M.n + 1 ≤ 1099511627776) : (M.lay key v g i).Fit := by
  have hl : (M.lay key v g i).ws.length = M.ws.length := by simp [SM.lay]
  have hl2 : (M.lay key v g i).ss.length = M.ss.length := by simp [SM.lay]
  refine ⟨by rw [hl]; exact hF.good, by rw [hl, hl2]; exact hF.slots, fun j hj => ?_, ⟨hn, ?_⟩, fun p hp => ?_⟩
  · rw [lay_w M key v g i j hg]
    split
    · exact put_lt _ _ _ (by have := M.what_lt key; omega)
    · exact hF.words j (by rwa [hl] at hj)
  · show (if byteN (M.w g) i = 254 then M.t - 1 else M.t) ≤ _
    have := hF.few.2
    split <;> omega
  · rw [lay_s M key v g i p (by have := hF.slots; omega)]
    split
    · exact hk
    · exact hF.texts p (by rwa [hl2] at hp)

theorem place_cases (M : SM) (key : ByteArray) (v : Value) (hF : M.Fit) : M.place key v = M ∨ ∃ g i, g < M.ws.length ∧ i < 8 ∧ freeI (M.w g) = some i ∧ M.spot (M.gs key) = some (g, i) ∧ M.place key v = M.lay key v g i := by
  unfold SM.place
  cases h : M.spot (M.gs key) with
  | none => exact .inl rfl
  | some p =>
    obtain ⟨g, i⟩ := p
    obtain ⟨h1, h2⟩ := spot_mem h
    exact .inr ⟨g, i, SM.gs_lt hF key g h1, (freeI_lt h2).1, h2, rfl, rfl⟩

theorem fit_place {M : SM} (hF : M.Fit) (key : ByteArray) (v : Value) (hk : key.size < 140737488355328) (hn : M.n + 1 ≤ 1099511627776) : (M.place key v).Fit ∧ (M.place key v).n ≤ M.n + 1 ∧ (M.place key v).ws.length = M.ws.length := by
  rcases place_cases M key v hF with h | ⟨g, i, hg, hi, _, _, h⟩
  · rw [h]; exact ⟨hF, by omega, rfl⟩
  · rw [h]
    exact ⟨fit_lay hF key v g i hg hi hk hn, Nat.le_refl _, by simp [SM.lay]⟩
theorem noDel_place {M : SM} (hF : M.Fit) (hD : M.NoDel) (key : ByteArray) (v : Value) : (M.place key v).NoDel := by
  rcases place_cases M key v hF with h | ⟨g, i, hg, hi, _, _, h⟩
  · rw [h]; exact hD
  · rw [h]
    intro g' i' hg' hi'
    rw [lay_w M key v g i g' hg]
    split
    · rw [put_byte _ _ _ (by have := M.what_lt key; omega) _ hi']
      have := M.what_lt key
      split
      · omega
      · exact hD g i' hg hi'
    · exact hD g' i' (by simpa [SM.lay] using hg') hi'

theorem noneW_byte : ∀ i : Fin 8, byteN noneW i.val = 128 := by decide +kernel
theorem empty_w (k0 k1 : Int) (z : Value) (g j : Nat) (hj : j < g) : (SM.empty k0 k1 z g).w j = noneW := by
  show (List.replicate g noneW).getD j 0 = _
  simp [hj]
theorem fit_empty (k0 k1 : Int) (z : Value) (g : Nat) (hg : isGood (g : Int) = true) : (SM.empty k0 k1 z g).Fit := by
  refine ⟨by simpa [SM.empty] using hg, by simp [SM.empty], fun j hj => ?_, ⟨Nat.zero_le _, Nat.zero_le _⟩, fun p hp => ?_⟩
  · rw [empty_w _ _ _ _ _ (by simpa [SM.empty] using hj)]; decide
  · have hp' : p < 8 * g := by simpa [SM.empty] using hp
    show ((List.replicate (8 * g) (ByteArray.empty, z)).getD p _).1.size < _
    simp [hp']
theorem noDel_empty (k0 k1 : Int) (z : Value) (g : Nat) : (SM.empty k0 k1 z g).NoDel := by
  intro j i hj hi
  rw [empty_w _ _ _ _ _ (by simpa [SM.empty] using hj), noneW_byte ⟨i, hi⟩]
  decide

/-- The keys at the places of a list, placed one behind the other. -/
def SM.re (M : SM) (z : Value) (l : List Nat) : SM := l.foldl (fun N p => N.place (M.s p).1 (M.s p).2) (SM.empty M.k0 M.k1 z M.size')
theorem re_snoc (M : SM) (z : Value) (l : List Nat) (p : Nat) : M.re z (l ++ [p]) = (M.re z l).place (M.s p).1 (M.s p).2 := by simp [SM.re, List.foldl_append]
theorem re_full (M : SM) (z : Value) : M.rehash z = M.re z M.full := rfl
theorem fold_fit {M : SM} (hF : M.Fit) : ∀ (l : List Nat) (N : SM), (∀ p ∈ l, p < M.ss.length) → N.n + l.length ≤ 100000 → N.Fit → N.NoDel →
    (l.foldl (fun N p => N.place (M.s p).1 (M.s p).2) N).Fit ∧ (l.foldl (fun N p => N.place (M.s p).1 (M.s p).2) N).NoDel ∧ (l.foldl (fun N p => N.place (M.s p).1 (M.s p).2) N).n ≤ N.n + l.length
  | [], _, _, _, h1, h2 => ⟨h1, h2, Nat.le_refl _⟩
  | p :: r, N, hp, hl, h1, h2 => by
    rw [List.length_cons] at hl
    have ht := hF.texts p (hp p List.mem_cons_self)
    obtain ⟨f1, f2, _⟩ := fit_place h1 (M.s p).1 (M.s p).2 ht (by omega)
    obtain ⟨g1, g2, g3⟩ := fold_fit hF r (N.place (M.s p).1 (M.s p).2) (fun q hq => hp q (List.mem_cons_of_mem _ hq)) (by omega) f1 (noDel_place h1 h2 _ _)
    exact ⟨g1, g2, Nat.le_trans g3 (by rw [List.length_cons]; omega)⟩
theorem re_fit {M : SM} (hF : M.Fit) (hg : isGood (M.size' : Int) = true) (z : Value) (l : List Nat) (hp : ∀ p ∈ l, p < M.ss.length) (hl : l.length ≤ 100000) : (M.re z l).Fit ∧ (M.re z l).NoDel ∧ (M.re z l).n ≤ l.length := by
  have := fold_fit hF l (SM.empty M.k0 M.k1 z M.size') hp (by show 0 + _ ≤ _; omega) (fit_empty _ _ _ _ hg) (noDel_empty _ _ _ _)
  exact ⟨this.1, this.2.1, by have h := this.2.2; show _ ≤ _; rw [show (SM.empty M.k0 M.k1 z M.size').n = 0 from rfl, Nat.zero_add] at h; exact h⟩
theorem full_lt {M : SM} (hF : M.Fit) : ∀ p ∈ M.full, p < M.ss.length := fun p hp => by
  have := List.mem_range.1 (List.mem_filter.1 hp).1
  rw [hF.slots]
  exact this
theorem full_len {M : SM} (hF : M.Fit) : M.full.length ≤ 8192 := by
  have h1 := List.length_filter_le (fun p => decide (byteN (M.w (p / 8)) (p % 8) < 128)) (List.range (8 * M.ws.length))
  rw [List.length_range] at h1
  have := good_range hF.good
  unfold SM.full
  omega
end Go.Proofs.YthlghokgknkpaaaGreatDoor

/-
  Plain mathematics of the map: what is found lies there.
-/
namespace Go.Proofs.YthlghokgknkpaaaGreatDoor
open Go.RowKit

theorem hit_some {M : SM} {key : ByteArray} {g i : Nat} (h : M.hit key g = some i) : i < 8 ∧ byteN (M.w g) i = M.what key ∧ (M.s (8 * g + i)).1 = key := by
  unfold SM.hit at h
  have h1 := List.mem_range.1 (List.mem_of_find?_eq_some h)
  have h2 := of_decide_eq_true (List.find?_some (p := fun i => decide (byteN (M.w g) i = M.what key ∧ (M.s (8 * g + i)).1 = key)) h)
  exact ⟨h1, h2.1, h2.2⟩
theorem findG_some {M : SM} {key : ByteArray} : ∀ {l : List Nat} {p : Nat}, M.findG key l = some p → ∃ g i, p = 8 * g + i ∧ g ∈ l ∧ i < 8 ∧ byteN (M.w g) i = M.what key ∧ (M.s p).1 = key
  | [], _, h => by cases h
  | x :: r, p, h => by
    unfold SM.findG at h
    cases hh : M.hit key x with
    | some i =>
      rw [hh] at h
      obtain ⟨h1, h2, h3⟩ := hit_some hh
      simp only [Option.some.injEq] at h
      subst h
      exact ⟨x, i, rfl, List.mem_cons_self, h1, h2, h3⟩
    | none =>
      rw [hh] at h
      simp only at h
      split at h
      · cases h
      · obtain ⟨g, i, e1, e2, e3, e4, e5⟩ := findG_some h
        exact ⟨g, i, e1, List.mem_cons_of_mem _ e2, e3, e4, e5⟩
theorem find_some {M : SM} (hF : M.Fit) {key : ByteArray} {p : Nat} (h : M.find key = some p) : p < M.ss.length ∧ p / 8 < M.ws.length ∧ byteN (M.w (p / 8)) (p % 8) = M.what key ∧ (M.s p).1 = key := by
  obtain ⟨g, i, rfl, h2, h3, h4, h5⟩ := findG_some h
  have hg := SM.gs_lt hF key g h2
  rw [hF.slots, show (8 * g + i) / 8 = g by omega, show (8 * g + i) % 8 = i by omega]
  exact ⟨by omega, hg, h4, h5⟩

/-- The values are all of one kind. -/
def SM.Typed (M : SM) (K : Value → Prop) : Prop := ∀ p, p < M.ss.length → K (M.s p).2
theorem typed_place {M : SM} {K : Value → Prop} (hF : M.Fit) (hV : M.Typed K) (key : ByteArray) {v : Value} (hv : K v) : (M.place key v).Typed K := by
  rcases place_cases M key v hF with h | ⟨g, i, hg, hi, _, _, h⟩
  · rw [h]; exact hV
  · rw [h]
    intro p hp
    have hp' : p < M.ss.length := by simpa [SM.lay] using hp
    rw [lay_s M key v g i p (by have := hF.slots; omega)]
    split
    · exact hv
    · exact hV p hp'
theorem typed_empty (k0 k1 : Int) (z : Value) (g : Nat) {K : Value → Prop} (hz : K z) : (SM.empty k0 k1 z g).Typed K := by
  intro p hp
  have hp' : p < 8 * g := by simpa [SM.empty] using hp
  show K ((List.replicate (8 * g) (ByteArray.empty, z)).getD p _).2
  simp [hp']
  exact hz
theorem fold_typed {M : SM} {K : Value → Prop} (hF : M.Fit) (hV : M.Typed K) : ∀ (l : List Nat) (N : SM), (∀ p ∈ l, p < M.ss.length) → N.n + l.length ≤ 100000 → N.Fit → N.NoDel → N.Typed K →
    (l.foldl (fun N p => N.place (M.s p).1 (M.s p).2) N).Typed K
  | [], _, _, _, _, _, h => h
  | p :: r, N, hp, hl, h1, h2, h3 => by
    rw [List.length_cons] at hl
    have ht := hF.texts p (hp p List.mem_cons_self)
    obtain ⟨f1, f2, _⟩ := fit_place h1 (M.s p).1 (M.s p).2 ht (by omega)
    exact fold_typed hF hV r (N.place (M.s p).1 (M.s p).2) (fun q hq => hp q (List.mem_cons_of_mem _ hq)) (by omega) f1 (noDel_place h1 h2 _ _) (typed_place h1 h3 _ (hV p (hp p List.mem_cons_self)))
theorem rehash_fit {M : SM} (hF : M.Fit) (hg : isGood (M.size' : Int) = true) (z : Value) : (M.rehash z).Fit ∧ (M.rehash z).NoDel ∧ (M.rehash z).n ≤ 8192 := by
  have h := re_fit hF hg z M.full (full_lt hF) (by have := full_len hF; omega)
  exact ⟨h.1, h.2.1, Nat.le_trans h.2.2 (full_len hF)⟩
theorem rehash_typed {M : SM} {K : Value → Prop} (hF : M.Fit) (hg : isGood (M.size' : Int) = true) {z : Value} (hV : M.Typed K) (hz : K z) : (M.rehash z).Typed K :=
  fold_typed hF hV M.full _ (full_lt hF) (by have := full_len hF; show 0 + _ ≤ _; omega) (fit_empty _ _ _ _ hg) (noDel_empty _ _ _ _) (typed_empty _ _ _ _ hz)

/-- What Put and Delete ask of a map. -/
structure SM.Sane (M : SM) (K : Value → Prop) : Prop where
  fit : M.Fit
  typed : M.Typed K
  tombs : ∀ g i, g < M.ws.length → i < 8 → byteN (M.w g) i = 254 → 1 ≤ M.t
  some : ∀ g i, g < M.ws.length → i < 8 → byteN (M.w g) i < 128 → 1 ≤ M.n
  room : 7 * M.ws.length ≤ M.n + M.t → M.n < 2000 → isGood (M.size' : Int) = true
end Go.Proofs.YthlghokgknkpaaaGreatDoor

/-
  Plain mathematics: the groups of a hash are unlike one another, and all of them are told.
-/
namespace Go.Proofs.YthlghokgknkpaaaGreatDoor
open Go.RowKit

theorem odd_coprime {d k : Nat} (h : d % 2 = 1) : Nat.Coprime (2 ^ k) d := by
  refine Nat.Coprime.pow_left k ?_
  show Nat.gcd 2 d = 1
  rw [Nat.gcd_rec, h]
  rfl
/-- Two steps that tell the same group are one. -/
theorem tri_inj (m x i j : Nat) (hij : i ≤ j) (hj : j < 2 ^ m) (h : (x + i * (i + 1) / 2) % 2 ^ m = (x + j * (j + 1) / 2) % 2 ^ m) : i = j := by
  have ei : 2 * (i * (i + 1) / 2) = i * (i + 1) := by
    rcases Nat.mod_two_eq_zero_or_one i with h' | h'
    · exact Nat.mul_div_cancel' (Nat.dvd_trans (Nat.dvd_of_mod_eq_zero h') (Nat.dvd_mul_right _ _))
    · exact Nat.mul_div_cancel' (Nat.dvd_trans (Nat.dvd_of_mod_eq_zero (by omega : (i + 1) % 2 = 0)) (Nat.dvd_mul_left _ _))
  have ej : 2 * (j * (j + 1) / 2) = j * (j + 1) := by
    rcases Nat.mod_two_eq_zero_or_one j with h' | h'
    · exact Nat.mul_div_cancel' (Nat.dvd_trans (Nat.dvd_of_mod_eq_zero h') (Nat.dvd_mul_right _ _))
    · exact Nat.mul_div_cancel' (Nat.dvd_trans (Nat.dvd_of_mod_eq_zero (by omega : (j + 1) % 2 = 0)) (Nat.dvd_mul_left _ _))
  obtain ⟨d, rfl⟩ : ∃ d, j = i + d := ⟨j - i, by omega⟩
  have eq : (i + d) * (i + d + 1) = i * (i + 1) + d * (d + 2 * i + 1) := by
    simp only [Nat.add_mul, Nat.mul_add, Nat.mul_one]
    rw [Nat.mul_comm d i, show i * d = d * i from Nat.mul_comm _ _, show d * (2 * i) = d * i + d * i by rw [Nat.mul_comm 2 i, ← Nat.mul_assoc, Nat.mul_two]]
    omega
  generalize i * (i + 1) / 2 = a at *
  generalize (i + d) * (i + d + 1) / 2 = b at *
  have hdiv : 2 ^ m ∣ (x + b) - (x + a) := Nat.dvd_of_mod_eq_zero (Nat.sub_mod_eq_zero_of_mod_eq h.symm)
  have hprod : 2 ^ (m + 1) ∣ d * (d + 2 * i + 1) := by
    have e : d * (d + 2 * i + 1) = ((x + b) - (x + a)) * 2 := by omega
    rw [e, Nat.pow_succ]
    exact Nat.mul_dvd_mul_right hdiv 2
  have hp : 2 ^ (m + 1) = 2 ^ m * 2 := Nat.pow_succ _ _
  rcases Nat.eq_zero_or_pos d with h0 | h0
  · omega
  · exfalso
    rcases Nat.mod_two_eq_zero_or_one d with h' | h'
    · have := Nat.le_of_dvd h0 (Nat.Coprime.dvd_of_dvd_mul_right (odd_coprime (by omega)) hprod)
      omega
    · rw [Nat.mul_comm] at hprod
      have := Nat.le_of_dvd (by omega) (Nat.Coprime.dvd_of_dvd_mul_right (odd_coprime h') hprod)
      omega

theorem good_pow {g : Nat} (h : isGood (g : Int) = true) : ∃ m, m < 11 ∧ g = 2 ^ m := by
  have := good_mem h
  rcases this with h | h | h | h | h | h | h | h | h | h | h
  · exact ⟨0, by decide, by omega⟩
  · exact ⟨1, by decide, by omega⟩
  · exact ⟨2, by decide, by omega⟩
  · exact ⟨3, by decide, by omega⟩
  · exact ⟨4, by decide, by omega⟩
  · exact ⟨5, by decide, by omega⟩
  · exact ⟨6, by decide, by omega⟩
  · exact ⟨7, by decide, by omega⟩
  · exact ⟨8, by decide, by omega⟩
  · exact ⟨9, by decide, by omega⟩
  · exact ⟨10, by decide, by omega⟩
theorem atN_inj {x g i j : Nat} (h : isGood (g : Int) = true) (hi : i < g) (hj : j < g) (he : atN x i g = atN x j g) : i = j := by
  obtain ⟨m, _, rfl⟩ := good_pow h
  unfold atN at he
  rcases Nat.le_total i j with h' | h'
  · exact tri_inj m _ i j h' hj he
  · exact (tri_inj m _ j i h' hi he.symm).symm
theorem grp_map (y : Int) (g : Nat) (hg : isGood (g : Int) = true) : (grpL y g).map Int.toNat = (List.range g).map fun i => atN y.toNat i g := by
  unfold grpL endI
  rw [if_pos hg, Int.toNat_natCast, List.map_map]
  refine List.map_congr_left fun i hi => ?_
  have hi := List.mem_range.1 hi
  show (atI y i g).toNat = _
  unfold atI
  rw [if_pos ⟨hg, by omega, by omega⟩]
  simp
theorem gs_def (M : SM) (key : ByteArray) : ∃ y : Int, M.gs key = (grpL y M.ws.length).map Int.toNat := ⟨M.hash key / 128, rfl⟩
theorem gs_map {M : SM} (h : M.Fit) (key : ByteArray) : ∃ x, M.gs key = (List.range M.ws.length).map fun i => atN x i M.ws.length := by
  obtain ⟨y, hy⟩ := gs_def M key
  exact ⟨y.toNat, hy.trans (grp_map y _ h.good)⟩
theorem map_nodup {f : Nat → Nat} {n : Nat} (h : ∀ i j, i < n → j < n → f i = f j → i = j) : ((List.range n).map f).Nodup := by
  induction n with
  | zero => simp
  | succ n ih =>
    rw [List.range_succ, List.map_append, List.map_singleton, List.nodup_append]
    refine ⟨ih fun i j hi hj => h i j (by omega) (by omega), by simp, fun a ha b hb => ?_⟩
    obtain ⟨i, hi, rfl⟩ := List.mem_map.1 ha
    have hi := List.mem_range.1 hi
    rw [List.mem_singleton.1 hb]
    intro e
    have := h i n (by omega) (by omega) e
    omega
theorem nodup_le : ∀ (n : Nat) (l : List Nat), l.Nodup → (∀ x ∈ l, x < n) → l.length ≤ n
  | 0, l, _, h => by
    cases l with
    | nil => exact Nat.le_refl _
    | cons a r => exact absurd (h a List.mem_cons_self) (Nat.not_lt_zero _)
  | n + 1, l, hn, h => by
    by_cases hm : n ∈ l
    · have h1 := nodup_le n (l.erase n) (hn.erase n) fun x hx => by
        have := (hn.mem_erase_iff.1 hx)
        have h2 := h x this.2
        have h3 := this.1
        omega
      rw [List.length_erase_of_mem hm] at h1
      omega
    · have := nodup_le n l hn fun x hx => by
        have h2 := h x hx
        have : x ≠ n := fun e => hm (e ▸ hx)
        omega
      omega
theorem gs_nodup {M : SM} (h : M.Fit) (key : ByteArray) : (M.gs key).Nodup := by
  obtain ⟨x, hx⟩ := gs_map h key
  rw [hx]
  exact map_nodup fun i j hi hj he => atN_inj h.good hi hj he
theorem gs_all {M : SM} (h : M.Fit) (key : ByteArray) (g : Nat) (hg : g < M.ws.length) : g ∈ M.gs key := by
  have hn := gs_nodup h key
  have hl : (M.gs key).length = M.ws.length := by
    obtain ⟨x, hx⟩ := gs_map h key
    rw [hx]; simp
  refine Decidable.byContradiction fun hm => ?_
  have := nodup_le M.ws.length (g :: M.gs key) (List.nodup_cons.2 ⟨hm, hn⟩) fun x hx => by
    rcases List.mem_cons.1 hx with rfl | hx
    · exact hg
    · exact SM.gs_lt h key x hx
  rw [List.length_cons, hl] at this
  omega
end Go.Proofs.YthlghokgknkpaaaGreatDoor
