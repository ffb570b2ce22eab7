/-
  Plain mathematics: the groups of a hash are unlike one another, and all of them are told.
-/
import Derived.Test.YtkjnifipepiahaaDoorSwP2
namespace Go.Proofs.YtkjnifipepiahaaDoor
open Go.RowKit

theorem odd_coprime {d k : Nat} (h : d % 2 = 1) : Nat.Coprime (2 ^ k) d := by
  refine Nat.Coprime.pow_left k ?_
  show Nat.gcd 2 d = 1
  rw [Nat.gcd_rec, h]
  rfl
/-- Two steps that tell the same group are one. -/
theorem tri_inj (m x i j : Nat) (hij : i ≤ j) (hj : j < 2 ^ m) (h : (x + i * (i + 1) / 2) % 2 ^ m = (x + j * (j + 1) / 2) % 2 ^ m) : i = j := by
  have ei : 2 * (i * (i + 1) / 2) = i * (i + 1) := by
    rcases Nat.mod_two_eq_zero_or_one i with h' | h'
    · exact Nat.mul_div_cancel' (Nat.dvd_trans (Nat.dvd_of_mod_eq_zero h') (Nat.dvd_mul_right _ _))
    · exact Nat.mul_div_cancel' (Nat.dvd_trans (Nat.dvd_of_mod_eq_zero (by omega : (i + 1) % 2 = 0)) (Nat.dvd_mul_left _ _))
  have ej : 2 * (j * (j + 1) / 2) = j * (j + 1) := by
    rcases Nat.mod_two_eq_zero_or_one j with h' | h'
    · exact Nat.mul_div_cancel' (Nat.dvd_trans (Nat.dvd_of_mod_eq_zero h') (Nat.dvd_mul_right _ _))
    · exact Nat.mul_div_cancel' (Nat.dvd_trans (Nat.dvd_of_mod_eq_zero (by omega : (j + 1) % 2 = 0)) (Nat.dvd_mul_left _ _))
  obtain ⟨d, rfl⟩ : ∃ d, j = i + d := ⟨j - i, by omega⟩
  have eq : (i + d) * (i + d + 1) = i * (i + 1) + d * (d + 2 * i + 1) := by
    simp only [Nat.add_mul, Nat.mul_add, Nat.mul_one]
    rw [Nat.mul_comm d i, show i * d = d * i from Nat.mul_comm _ _, show d * (2 * i) = d * i + d * i by rw [Nat.mul_comm 2 i, ← Nat.mul_assoc, Nat.mul_two]]
    omega
  generalize i * (i + 1) / 2 = a at *
  generalize (i + d) * (i + d + 1) / 2 = b at *
  have hdiv : 2 ^ m ∣ (x + b) - (x + a) := Nat.dvd_of_mod_eq_zero (Nat.sub_mod_eq_zero_of_mod_eq h.symm)
  have hprod : 2 ^ (m + 1) ∣ d * (d + 2 * i + 1) := by
    have e : d * (d + 2 * i + 1) = ((x + b) - (x + a)) * 2 := by omega
    rw [e, Nat.pow_succ]
    exact Nat.mul_dvd_mul_right hdiv 2
  have hp : 2 ^ (m + 1) = 2 ^ m * 2 := Nat.pow_succ _ _
  rcases Nat.eq_zero_or_pos d with h0 | h0
  · omega
  · exfalso
    rcases Nat.mod_two_eq_zero_or_one d with h' | h'
    · have := Nat.le_of_dvd h0 (Nat.Coprime.dvd_of_dvd_mul_right (odd_coprime (by omega)) hprod)
      omega
    · rw [Nat.mul_comm] at hprod
      have := Nat.le_of_dvd (by omega) (Nat.Coprime.dvd_of_dvd_mul_right (odd_coprime h') hprod)
      omega

theorem good_pow {g : Nat} (h : isGood (g : Int) = true) : ∃ m, m < 11 ∧ g = 2 ^ m := by
  have := good_mem h
  rcases this with h | h | h | h | h | h | h | h | h | h | h
  · exact ⟨0, by decide, by omega⟩
  · exact ⟨1, by decide, by omega⟩
  · exact ⟨2, by decide, by omega⟩
  · exact ⟨3, by decide, by omega⟩
  · exact ⟨4, by decide, by omega⟩
  · exact ⟨5, by decide, by omega⟩
  · exact ⟨6, by decide, by omega⟩
  · exact ⟨7, by decide, by omega⟩
  · exact ⟨8, by decide, by omega⟩
  · exact ⟨9, by decide, by omega⟩
  · exact ⟨10, by decide, by omega⟩
theorem atN_inj {x g i j : Nat} (h : isGood (g : Int) = true) (hi : i < g) (hj : j < g) (he : atN x i g = atN x j g) : i = j := by
  obtain ⟨m, _, rfl⟩ := good_pow h
  unfold atN at he
  rcases Nat.le_total i j with h' | h'
  · exact tri_inj m _ i j h' hj he
  · exact (tri_inj m _ j i h' hi he.symm).symm
theorem grp_map (y : Int) (g : Nat) (hg : isGood (g : Int) = true) : (grpL y g).map Int.toNat = (List.range g).map fun i => atN y.toNat i g := by
  unfold grpL endI
  rw [if_pos hg, Int.toNat_natCast, List.map_map]
  refine List.map_congr_left fun i hi => ?_
  have hi := List.mem_range.1 hi
  show (atI y i g).toNat = _
  unfold atI
  rw [if_pos ⟨hg, by omega, by omega⟩]
  simp
theorem gs_def (M : SM) (key : ByteArray) : ∃ y : Int, M.gs key = (grpL y M.ws.length).map Int.toNat := ⟨M.hash key / 128, rfl⟩
theorem gs_map {M : SM} (h : M.Fit) (key : ByteArray) : ∃ x, M.gs key = (List.range M.ws.length).map fun i => atN x i M.ws.length := by
  obtain ⟨y, hy⟩ := gs_def M key
  exact ⟨y.toNat, hy.trans (grp_map y _ h.good)⟩
theorem map_nodup {f : Nat → Nat} {n : Nat} (h : ∀ i j, i < n → j < n → f i = f j → i = j) : ((List.range n).map f).Nodup := by
  induction n with
  | zero => simp
  | succ n ih =>
    rw [List.range_succ, List.map_append, List.map_singleton, List.nodup_append]
    refine ⟨ih fun i j hi hj => h i j (by omega) (by omega), by simp, fun a ha b hb => ?_⟩
    obtain ⟨i, hi, rfl⟩ := List.mem_map.1 ha
    have hi := List.mem_range.1 hi
    rw [List.mem_singleton.1 hb]
    intro e
    have := h i n (by omega) (by omega) e
    omega
theorem nodup_le : ∀ (n : Nat) (l : List Nat), l.Nodup → (∀ x ∈ l, x < n) → l.length ≤ n
  | 0, l, _, h => by
    cases l with
    | nil => exact Nat.le_refl _
    | cons a r => exact absurd (h a List.mem_cons_self) (Nat.not_lt_zero _)
  | n + 1, l, hn, h => by
    by_cases hm : n ∈ l
    · have h1 := nodup_le n (l.erase n) (hn.erase n) fun x hx => by
        have := (hn.mem_erase_iff.1 hx)
        have h2 := h x this.2
        have h3 := this.1
        omega
      rw [List.length_erase_of_mem hm] at h1
      omega
    · have := nodup_le n l hn fun x hx => by
        have h2 := h x hx
        have : x ≠ n := fun e => hm (e ▸ hx)
        omega
      omega
theorem gs_nodup {M : SM} (h : M.Fit) (key : ByteArray) : (M.gs key).Nodup := by
  obtain ⟨x, hx⟩ := gs_map h key
  rw [hx]
  exact map_nodup fun i j hi hj he => atN_inj h.good hi hj he
theorem gs_all {M : SM} (h : M.Fit) (key : ByteArray) (g : Nat) (hg : g < M.ws.length) : g ∈ M.gs key := by
  have hn := gs_nodup h key
  have hl : (M.gs key).length = M.ws.length := by
    obtain ⟨x, hx⟩ := gs_map h key
    rw [hx]; simp
  refine Decidable.byContradiction fun hm => ?_
  have := nodup_le M.ws.length (g :: M.gs key) (List.nodup_cons.2 ⟨hm, hn⟩) fun x hx => by
    rcases List.mem_cons.1 hx with rfl | hx
    · exact hg
    · exact SM.gs_lt h key x hx
  rw [List.length_cons, hl] at this
  omega
end Go.Proofs.YtkjnifipepiahaaDoor
