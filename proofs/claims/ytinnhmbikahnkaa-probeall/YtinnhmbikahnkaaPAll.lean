/-
  The walk of corbellaw04.ProbeAll: the groups that are told are unlike one another.
-/
import Derived.Test.YtinnhmbikahnkaaPMoves
namespace Go.Proofs.Ytinnhmbikahnkaa
open Go.RowKit Go.Shelf

theorem odd_coprime {d k : Nat} (h : d % 2 = 1) : Nat.Coprime (2 ^ k) d := by
  refine Nat.Coprime.pow_left k ?_
  show Nat.gcd 2 d = 1
  rw [Nat.gcd_rec, h]
  rfl
/-- Two steps that tell the same group are one. -/
theorem tri_inj (m x i j : Nat) (hij : i ≤ j) (hj : j < 2 ^ m) (h : (x + i * (i + 1) / 2) % 2 ^ m = (x + j * (j + 1) / 2) % 2 ^ m) : i = j := by
  have ei : 2 * (i * (i + 1) / 2) = i * (i + 1) := by
    rcases Nat.mod_two_eq_zero_or_one i with h' | h'
    · exact Nat.mul_div_cancel' (Nat.dvd_trans (Nat.dvd_of_mod_eq_zero h') (Nat.dvd_mul_right _ _))
    · exact Nat.mul_div_cancel' (Nat.dvd_trans (Nat.dvd_of_mod_eq_zero (by omega : (i + 1) % 2 = 0)) (Nat.dvd_mul_left _ _))
  have ej : 2 * (j * (j + 1) / 2) = j * (j + 1) := by
    rcases Nat.mod_two_eq_zero_or_one j with h' | h'
    · exact Nat.mul_div_cancel' (Nat.dvd_trans (Nat.dvd_of_mod_eq_zero h') (Nat.dvd_mul_right _ _))
    · exact Nat.mul_div_cancel' (Nat.dvd_trans (Nat.dvd_of_mod_eq_zero (by omega : (j + 1) % 2 = 0)) (Nat.dvd_mul_left _ _))
  obtain ⟨d, rfl⟩ : ∃ d, j = i + d := ⟨j - i, by omega⟩
  have eq : (i + d) * (i + d + 1) = i * (i + 1) + d * (d + 2 * i + 1) := by
    simp only [Nat.add_mul, Nat.mul_add, Nat.mul_one]
    rw [Nat.mul_comm d i, show i * d = d * i from Nat.mul_comm _ _, show d * (2 * i) = d * i + d * i by rw [Nat.mul_comm 2 i, ← Nat.mul_assoc, Nat.mul_two]]
    omega
  generalize i * (i + 1) / 2 = a at *
  generalize (i + d) * (i + d + 1) / 2 = b at *
  have hdiv : 2 ^ m ∣ (x + b) - (x + a) := Nat.dvd_of_mod_eq_zero (Nat.sub_mod_eq_zero_of_mod_eq h.symm)
  have hprod : 2 ^ (m + 1) ∣ d * (d + 2 * i + 1) := by
    have e : d * (d + 2 * i + 1) = ((x + b) - (x + a)) * 2 := by omega
    rw [e, Nat.pow_succ]
    exact Nat.mul_dvd_mul_right hdiv 2
  have hp : 2 ^ (m + 1) = 2 ^ m * 2 := Nat.pow_succ _ _
  rcases Nat.eq_zero_or_pos d with h0 | h0
  · omega
  · exfalso
    rcases Nat.mod_two_eq_zero_or_one d with h' | h'
    · have := Nat.le_of_dvd h0 (Nat.Coprime.dvd_of_dvd_mul_right (odd_coprime (by omega)) hprod)
      omega
    · rw [Nat.mul_comm] at hprod
      have := Nat.le_of_dvd (by omega) (Nat.Coprime.dvd_of_dvd_mul_right (odd_coprime h') hprod)
      omega
theorem at_inj (m : Nat) (hm : m < 11) (h : Int) (i j : Nat) (hi : i < 2 ^ m) (hj : j < 2 ^ m) (he : atI h i ((2 ^ m : Nat) : Int) = atI h j ((2 ^ m : Nat) : Int)) : i = j := by
  have hg : isGood ((2 ^ m : Nat) : Int) = true := by
    have := pow_good ⟨m, hm⟩
    dsimp only at this
    rw [Int.natCast_pow]
    exact this
  unfold atI at he
  rw [if_pos ⟨hg, by omega, by omega⟩, if_pos ⟨hg, by omega, by omega⟩] at he
  simp only [Int.toNat_natCast] at he
  unfold atN at he
  have he' := Int.ofNat_inj.1 he
  rcases Nat.le_total i j with h' | h'
  · exact tri_inj m _ i j h' hj he'
  · exact (tri_inj m _ j i h' hi he'.symm).symm

theorem ownsRow_form' {w : World} {B : Nat} {v : Value} {xs : List Int} (h : OwnsI w B v xs) (hn : 0 < xs.length) : ∃ g cap, v = .slice (some ⟨g, 0, none⟩) xs.length cap := by
  rcases h.2 with ⟨_, h0⟩ | ⟨g, cap, _, rfl, _⟩
  · omega
  · exact ⟨g, cap, rfl⟩
theorem made_zeros (n : Nat) : (madeCells (Value.int .i64 0).cells (n * 1)).toList = (List.replicate n (0 : Int)).map (Value.int .i64) := by
  unfold madeCells
  apply List.ext_getElem
  · simp
  · intro i h1 h2
    simp [Value.cells, Nat.mod_one]
theorem grp_full (h : Int) (m : Nat) (hm : m < 11) : gatL h ((2 ^ m : Nat) : Int) (-1) = (List.range (2 ^ m)).map fun i : Nat => atI h i ((2 ^ m : Nat) : Int) := by
  have hg : isGood ((2 ^ m : Nat) : Int) = true := by
    have := pow_good ⟨m, hm⟩
    dsimp only at this
    rw [Int.natCast_pow]
    exact this
  unfold gatL grpL endI
  rw [if_neg (by decide), if_pos hg, Int.toNat_natCast]

set_option maxRecDepth 10000 in
set_option maxHeartbeats 2000000 in
theorem probeAll_any (h k : Int) (w : World) (hh : 0 ≤ h ∧ h ≤ 18446744073709551615) (hk : 0 ≤ k ∧ k ≤ 18446744073709551615) :
    Calls Try.prog 5 #[.int .u64 h, .int .u64 k] w fun e w' => e = .returned (.bool true) ∧ Below w.heap.size w w' := by
  obtain ⟨i0, hi, hz0, hz1, hz2⟩ := info_parts Try.infoInt
  obtain ⟨m, hm, hm10⟩ : ∃ m : Nat, k % 11 = (m : Int) ∧ m < 11 := ⟨(k % 11).toNat, by omega, by omega⟩
  have hg := pow_good ⟨m, hm10⟩
  dsimp only at hg
  have hp : (2 : Int) ^ m = ((2 ^ m : Nat) : Int) := by rw [Int.natCast_pow]; rfl
  have hinj : Hid (∀ i j : Nat, i < 2 ^ m → j < 2 ^ m → atI h i ((2 ^ m : Nat) : Int) = atI h j ((2 ^ m : Nat) : Int) → i = j) := fun i j h1 h2 h3 => at_inj m hm10 h i j h1 h2 h3
  have hL : Hid (gatL h ((2 ^ m : Nat) : Int) (-1) = (List.range (2 ^ m)).map fun i : Nat => atI h i ((2 ^ m : Nat) : Int)) := grp_full h m hm10
  rw [hp] at hg
  generalize 2 ^ m = N at *
  have hr := good_range hg
  have ha0 : Hid (atI h 0 N = h % (N : Int)) := by
    show atI h 0 N = _
    rw [at_eq (by omega) hg (by omega) (by omega)]
    simp
  go_enter Try.func5, Try.ntmps5
  go_wp2_with (at_make; refine wpList_make_full _ rfl _ _ 23 rfl w.heap.size 3 i0 (.int .i64 0) 1 Try.underlying23 hi hz0 hz1 _ _ _ _ N rfl rfl (by omega) (by omega) (by rw [hz2]; omega) (by unfold maxLen; omega) (Nat.le_refl _) ?_; intro w0 hown0 hgrow0)
  have hB0 : Below w.heap.size w w0 := (Below.refl _ w).grown hgrow0 (Nat.le_refl _) (fun _ e => by cases e)
  have hlt0 : w.heap.size < w0.heap.size := (World.ownsRow.lt hown0 _ rfl).2
  have hS0 : OwnsI w0 w.heap.size (.slice (some ⟨w.heap.size, 0, none⟩) N N) (List.replicate N 0) := by
    unfold OwnsI
    rw [List.length_replicate, ← made_zeros]
    exact hown0
  clear hown0 hgrow0
  refine (gather_any h N (-1) (by omega) (by omega) (by omega) (by omega) (by omega) (by omega) w0).mono ?_
  rintro e w1 ⟨v, rfl, ho, hb1⟩
  rw [hL.out] at ho
  have hll : ((List.range N).map fun i : Nat => atI h i N).length = N := by simp
  obtain ⟨bl, cap, hv⟩ := ownsRow_form' ho (by omega)
  rw [hll] at hv
  subst hv
  have hlt1 := World.ownsRow.lt ho bl rfl
  have hS1 := hS0.below hb1 (Nat.le_refl _)
  have hcl : ∀ (X : World), OwnsI X w0.heap.size (.slice (some ⟨bl, 0, none⟩) N cap) ((List.range N).map fun i : Nat => atI h i N) → ∀ i : Nat, i < N → X.cell? ⟨bl, i, none⟩ = some (.int .i64 (atI h i N)) := fun X hX i hi' => by
    unfold OwnsI at hX
    rw [hll] at hX
    rw [World.ownsRow.cellAt hX i (by omega)]
    simp [hi']
  have c0 := hcl w1 ho 0 (by omega)
  rw [show atI h ((0 : Nat) : Int) N = h % (N : Int) from ha0.out] at c0
  have hm0 : 0 ≤ h % (N : Int) := Int.emod_nonneg _ (by omega)
  have hm1 : h % (N : Int) < N := Int.emod_lt_of_pos _ (by omega)
  have hB1 : Below w.heap.size w w1 := hB0.trans (hb1.mono (by omega))
  have hN0 : (0 : Int) < (N : Int) := by omega
  clear hS0 hb1 hL
  go_wp2_with fail
  go_quiet (fail)
  go_wp2_with fail
  have hE0 : Hid (∀ x : Nat, (List.replicate N (0 : Int)).getD x 0 = 0 ∨ ∃ i : Nat, i < 0 ∧ atI h i N = x) := fun x => .inl (by simp [List.getElem?_replicate]; split <;> rfl)
  go_loopw [35] (fun t wr => ∃ (j : Nat) (S : List Int), j ≤ N ∧ t = .int .i64 j ∧ S.length = N ∧ OwnsI wr w.heap.size (.slice (some ⟨w.heap.size, 0, none⟩) N N) S ∧
      OwnsI wr w0.heap.size (.slice (some ⟨bl, 0, none⟩) N cap) ((List.range N).map fun i : Nat => atI h i N) ∧ Below w.heap.size w wr ∧
      Hid (∀ x : Nat, S.getD x 0 = 0 ∨ ∃ i : Nat, i < j ∧ atI h i N = x)) (fun t _ => N - (intOf t).toNat)
  case atStart => exact ⟨0, List.replicate N 0, by omega, rfl, by simp, hS1, ho, below_drewN hB1, hE0⟩
  case round =>
    obtain ⟨j, S, hj, rfl, hSl, hS, hl, hB, hE⟩ := hrel
    by_cases hlt : j < N
    · have c1 := hcl wr hl j hlt
      have l1 := at_lo h j N
      have l2 := at_hi (h := h) (i := j) hr.1
      have hA := fun X : World => at_any h j N X (by omega) (by omega) (by omega) (by omega) (by omega) (by omega)
      obtain ⟨G, hG⟩ : ∃ G : Nat, atI h j N = (G : Int) := ⟨(atI h j N).toNat, by omega⟩
      have hS2 := hS
      unfold OwnsI at hS2
      rw [hSl] at hS2
      have hGN : G < N := by omega
      have hz : S.getD G 0 = 0 := by
        rcases hE.out G with h' | ⟨i, hi', he⟩
        · exact h'
        · exact absurd (hinj.out i j (by omega) hlt (by rw [he, hG])) (by omega)
      have c2 : wr.cell? ⟨w.heap.size, G, none⟩ = some (.int .i64 0) := by
        rw [World.ownsRow.cellAt hS2 G (by omega)]
        have : S[G]? = some 0 := by
          rw [List.getD_eq_getElem?_getD] at hz
          rw [List.getElem?_eq_getElem (by omega)] at hz ⊢
          simpa using hz
        simp [this]
      have f2 := World.ownsRow.frozenAt hS2 G
      obtain ⟨s1, s2⟩ := World.ownsRow.stored hS2 G (.int .i64 1)
      have hl2 : OwnsI (wr.setCell ⟨w.heap.size, G, none⟩ (.int .i64 1)) w0.heap.size (.slice (some ⟨bl, 0, none⟩) N cap) ((List.range N).map fun i : Nat => atI h i N) := World.ownsRow.kept hl s2 (.inr (by
        show some bl ≠ some w.heap.size
        intro e
        cases e
        omega))
      have hS3 : OwnsI (wr.setCell ⟨w.heap.size, G, none⟩ (.int .i64 1)) w.heap.size (.slice (some ⟨w.heap.size, 0, none⟩) N N) (S.set G 1) := by
        unfold OwnsI
        rw [List.length_set, hSl, List.map_set]
        exact s1
      have hB3 : Below w.heap.size w (wr.setCell ⟨w.heap.size, G, none⟩ (.int .i64 1)) := hB.setCell (p := ⟨w.heap.size, G, none⟩) (Nat.le_refl _) _
      have hE3 : Hid (∀ x : Nat, (S.set G 1).getD x 0 = 0 ∨ ∃ i : Nat, i < j + 1 ∧ atI h i N = x) := fun x => by
        by_cases hx : x = G
        · exact .inr ⟨j, by omega, by rw [hx]; exact hG⟩
        · rcases hE.out x with h' | ⟨i, hi', he⟩
          · refine .inl ?_
            rw [List.getD_eq_getElem?_getD] at h' ⊢
            rw [List.getElem?_set_ne (by omega)]
            exact h'
          · exact .inr ⟨i, by omega, he⟩
      rw [hG] at c1 hA
      have hSl3 : (S.set G 1).length = N := by rw [List.length_set]; exact hSl
      clear hG l1 l2 hz hE hS hS2 hl s1 s2 hB hcl hinj ha0 ho hS1 hE0 hB1
      have hjN : (j : Int) < (N : Int) := by omega
      have hGN' : (G : Int) < (N : Int) := by omega
      go_wp2_with (go_at_call 14; refine (hA _).mono ?_; rintro e w' ⟨rfl, rfl⟩)
      go_roundw
      case rel => exact ⟨j + 1, S.set G 1, by omega, by simp, hSl3, hS3, hl2, hB3, hE3⟩
      case measure => simp only [intOf]; omega
    · obtain rfl : j = N := by omega
      clear hcl hinj ha0 ho hS1 hE0 hB1 hS hl hE
      go_wp2_with fail
      refine (lives_any _).mono ?_
      rintro e w2 ⟨rfl, hb⟩
      go_wp2
      go_ret
      exact ⟨rfl, hB.trans (hb.mono hB.size)⟩
end Go.Proofs.Ytinnhmbikahnkaa
