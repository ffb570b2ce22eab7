/-
  Contracts: command.readPairs.
-/
import Derived.Test.YtomhmoedicajoaaCmM
import Derived.Test.YtomhmoedicajoaaCmR
import Derived.BigQuiet
namespace Go.Proofs.Ytomhmoedicajoaa
open Go.RowKit

theorem grown_below9 {w a b : World} {row : Option Nat} (h : w.grownBy a row) (hb : Below w.heap.size a b) : w.grownBy b row :=
  ⟨hb.os.trans h.os, hb.tape.trans h.tape, hb.output.trans h.output, Nat.le_trans h.size hb.size, fun k hk hr => (hb.block k hk).trans (h.block k hk hr)⟩
theorem div_two9 (n : Nat) : (n : Int).tdiv 2 = ((n / 2 : Nat) : Int) := by
  rw [Int.tdiv_eq_ediv_of_nonneg (by omega)]
  omega

/-- All the pairs that are told, off a reader's state. -/
def pairsS (S : List Int × Bool) : List (ByteArray × ByteArray) × (List Int × Bool) := rdN (getS S.1).1.toNat (loseS S.1 S.2 (getS S.1).2)
def pairsOk (S : List Int × Bool) : Bool := (pairsS S).2.1.isEmpty && !(pairsS S).2.2
theorem pairs_great (S : List Int × Bool) (h : S.1.length / 2 < (getS S.1).1.toNat) : pairsOk S = false := by
  unfold pairsOk
  cases hw : (pairsS S).2.2 with
  | true => simp
  | false =>
    exfalso
    unfold pairsS at hw
    have h1 := rdN_less _ _ hw
    have h2 := loseS_length S.1 S.2 (getS S.1).2
    omega
theorem pairs_wrong (S : List Int × Bool) {j : Nat} (hj : j ≤ (getS S.1).1.toNat) (h : (rdN j (loseS S.1 S.2 (getS S.1).2)).2.2 = true) : pairsOk S = false := by
  unfold pairsOk pairsS
  rw [rdN_wrong _ hj h]
  simp

set_option maxRecDepth 100000 in
set_option maxHeartbeats 1500000 in
theorem readPairs_any (w : World) (rb L : Nat) (v : Value) (S : List Int × Bool) (h : Rd w rb L v S.1 S.2) (hI : Inv S.1 S.2) (hB : IsB S.1) (hl : S.1.length ≤ 1073741824) :
    Calls Try.prog 45 #[.pointer (some ⟨rb, 0, none⟩)] w fun e w' => ∃ (a : Option Addr) (n c : Nat) (T : List Int × Bool), e = .returned (.slice a n c) ∧ (∃ v', Rd w' rb L v' T.1 T.2) ∧ Inv T.1 T.2 ∧ IsB T.1 ∧ T.1.length ≤ S.1.length ∧ w.grownBy w' (some rb) ∧
      ((T.2 = true ∧ pairsOk S = false) ∨ (T = (pairsS S).2 ∧ OwnsP w' w.heap.size (.slice a n c) (pairsS S).1)) := by
  obtain ⟨i1, hi1, hz1, hs1, hb1⟩ := info_parts infoP
  have hmf : ∀ (fn : Fn) (first cap : Array Value) (w : World), (Instr.makeFunc fn first cap).run Try.prog w = .ok (.func fn first cap) w := fun _ _ _ _ => rfl
  have HG : Hid (S.1.length / 2 < (getS S.1).1.toNat → pairsOk S = false) := pairs_great S
  have HW : Hid (∀ j, j ≤ (getS S.1).1.toNat → (rdN j (loseS S.1 S.2 (getS S.1).2)).2.2 = true → pairsOk S = false) := fun j => pairs_wrong S
  have HP : Hid (pairsS S = rdN (getS S.1).1.toNat (loseS S.1 S.2 (getS S.1).2)) := rfl
  have hgb := getS_bd S.1
  obtain ⟨xs, wr0⟩ := S
  dsimp only at *
  have hcnt := count_any ((xs.length / 2 : Nat) : Int) w rb L v xs wr0 h hB (by omega) (by omega)
  rw [hI.src] at hcnt
  have HL0 := loseS_length xs wr0
  have HB0 := fun k => loseS_isB hB wr0 k
  have HI0 := fun k => hI.lose k
  obtain ⟨pb, cb, hvb, -, -, -⟩ := id h.has
  have c0 := h.c0
  have hlt := h.lt
  rw [hvb] at c0
  generalize hnb : xs.length = nb at *
  have HNB : Hid (xs.length = nb) := hnb
  clear hnb hvb
  have hdv := div_two9 nb
  generalize hmm : nb / 2 = m2 at *
  have hm2 : m2 ≤ 536870912 := by omega
  have HM2 : Hid (nb / 2 = m2) := hmm
  clear hmm
  have hbd := countS_bd (m2 : Int) xs
  obtain ⟨N, s0, hcN, hs0, hNm, hend⟩ : ∃ (N : Nat) (s0 : List Int × Bool), (countS (m2 : Int) xs).1 = (N : Int) ∧ loseS xs wr0 (countS (m2 : Int) xs).2 = s0 ∧ N ≤ m2 ∧ ((s0 = ([], true) ∧ N = 0 ∧ pairsOk (xs, wr0) = false) ∨ (N = (getS xs).1.toNat ∧ s0 = loseS xs wr0 (getS xs).2)) := by
    by_cases hgr : (m2 : Int) < (getS xs).1
    · have hc0 : countS (m2 : Int) xs = (0, 0) := by unfold countS; rw [if_pos (Or.inr hgr)]
      rw [hc0]
      exact ⟨0, _, rfl, rfl, Nat.zero_le _, .inl ⟨rfl, rfl, HG.out (by omega)⟩⟩
    · have hc0 : countS (m2 : Int) xs = getS xs := by unfold countS; rw [if_neg (by omega)]
      rw [hc0]
      exact ⟨(getS xs).1.toNat, _, by omega, rfl, by omega, .inr ⟨rfl, rfl⟩⟩
  have HE : Hid _ := hend
  have hI0 := HI0 (countS (m2 : Int) xs).2
  have hBy0 := HB0 (countS (m2 : Int) xs).2
  have hl0 := HL0 (countS (m2 : Int) xs).2
  rw [hs0] at hI0 hBy0 hl0
  rw [hcN, hs0] at hcnt
  clear hend HG hcN hs0 hbd HL0 HB0 HI0 hgb
  go_enter Try.func45, Try.ntmps45
  go_wp2_with fail
  refine hcnt.mono ?_
  rintro e w1 ⟨rfl, hR1, hg1⟩
  clear hcnt
  go_wp2
  go_loopw [4, 17] (fun s4 s17 wr => ∃ (j : Nat) (pv v' : Value), pv = s4 ∧ j ≤ N ∧ s17 = .int .i64 (j : Nat) ∧ OwnsP wr w.heap.size pv (rdN j s0).1 ∧ Rd wr rb L v' (rdN j s0).2.1 (rdN j s0).2.2 ∧ w.grownBy wr (some rb)) (fun _ s17 _ => N - (intOf s17).toNat)
  case atStart =>
    obtain ⟨v1, hR1⟩ := hR1
    exact ⟨0, _, v1, rfl, Nat.zero_le _, rfl, OwnsP.nil0 _ _, hR1, hg1⟩
  case round =>
    clear hR1 hg1 c0
    obtain ⟨j, pv, v', hpv, hj, rfl, ho, hR, hg⟩ := hrel
    subst hpv
    have hI2 := rdN_inv hI0 j
    have hBy2 := rdN_isB hBy0 j
    have hln := rdN_length s0 j
    by_cases hlt2 : j < N
    · have HPn : Hid (rdN (j + 1) s0 = ((rdN j s0).1 ++ [(pairS (rdN j s0).2).1], (pairS (rdN j s0).2).2)) := rfl
      have HI3 : Hid (Inv (rdN (j + 1) s0).2.1 (rdN (j + 1) s0).2.2) := rdN_inv hI0 (j + 1)
      have HB3 : Hid (IsB (rdN (j + 1) s0).2.1) := rdN_isB hBy0 (j + 1)
      have HL3 : Hid ((rdN (j + 1) s0).2.1.length ≤ s0.1.length) := rdN_length s0 (j + 1)
      have hlj := rdN_len j s0
      generalize rdN j s0 = Q at *
      obtain ⟨l, st⟩ := Q
      obtain ⟨ys, wr1⟩ := st
      dsimp only at ho hR hI2 hBy2 hln HPn hlj
      have ht1 := text_any wr rb L v' ys wr1 hR hBy2 (by omega)
      rw [hI2.src] at ht1
      have hI3 := hI2.lose (getTextS ys).2
      have hBy3 := loseS_isB hBy2 wr1 (getTextS ys).2
      have hln3 := loseS_length ys wr1 (getTextS ys).2
      have HPS : Hid (pairS (ys, wr1) = ((strOfNums (getTextS ys).1, strOfNums (getTextS (loseS ys wr1 (getTextS ys).2).1).1), loseS (loseS ys wr1 (getTextS ys).2).1 (loseS ys wr1 (getTextS ys).2).2 (getTextS (loseS ys wr1 (getTextS ys).2).1).2)) := rfl
      generalize loseS ys wr1 (getTextS ys).2 = s1 at *
      obtain ⟨zs, wr2⟩ := s1
      dsimp only at ht1 hI3 hBy3 hln3 HPS
      have hlt8 : l.length + 1 ≤ 536870912 := by omega
      clear hR
      go_wp2_with fail
      refine ht1.mono ?_
      rintro e w3 ⟨rfl, ⟨v3, hR3⟩, hg3⟩
      have ht2 := text_any w3 rb L v3 zs wr2 hR3 hBy3 (by omega)
      rw [hI3.src] at ht2
      have ho3 := ho.kept7 hg3 (by omega)
      have hG3 := grown_trans hg hg3
      clear ht1 ho hg hg3 hR3
      go_wp2_with fail
      refine ht2.mono ?_
      rintro e w4 ⟨rfl, ⟨v4, hR4⟩, hg4⟩
      have ho4 := ho3.kept7 hg4 (by omega)
      have hG4 := grown_trans hG3 hg4
      clear ht2 ho3 hG3 hg4
      generalize strOfNums (getTextS ys).1 = xk at *
      generalize strOfNums (getTextS zs).1 = xv at *
      have hsz4 := hG4.size
      have hc1 := hR4.c1
      have hrl := hR4.lt
      generalize hS2 : loseS zs wr2 (getTextS zs).2 = s2 at *
      have HS2 : Hid (loseS zs wr2 (getTextS zs).2 = s2) := hS2
      clear hS2
      have HRow : Hid (rdN (j + 1) s0 = (l ++ [(xk, xv)], s2)) := by rw [Hid, HPn.out, HPS.out]
      obtain ⟨zs2, wr3⟩ := s2
      dsimp only at hR4 hc1
      cases wr3 with
      | true =>
        have hbad : pairsOk (xs, wr0) = false := by
          rcases HE.out with ⟨-, h0, -⟩ | ⟨h1, h2⟩
          · omega
          · exact HW.out (j + 1) (by omega) (by rw [← h2, HRow.out])
        have i9 := HI3.out
        have b9 := HB3.out
        have l9 := HL3.out
        rw [HRow.out] at i9 b9 l9
        go_wp2
        go_ret
        exact ⟨_, _, _, (zs2, true), rfl, ⟨v4, hR4⟩, i9, b9, Nat.le_trans l9 hl0, hG4, .inl ⟨rfl, hbad⟩⟩
      | false =>
        have hoA := World.ownsRow.alloc ho4 (.cells #[.string xk, .string xv] 67)
        go_wp2_with (at_builtin; refine wpList_append_own _ rfl _ _ 37 rfl w.heap.size 67 i1 (.agg #[.string ⟨#[]⟩, .string ⟨#[]⟩]) 2 32 Try.underlying37 hi1 hz1 hs1 hb1 rfl (by decide) pv l.length (pairsV l) rfl hoA ⟨w4.heap.size, 0, none⟩ 1 1 [.string xk, .string xv] rfl rfl (new_two _ _ _ _) (by simp [Value.oneCell']) (by unfold maxLen; omega) (by omega) (by simp; omega) ?_; intro v5 w5 ho5 hg5 _)
        have hb5 : Below w.heap.size w4 w5 := ((Below.refl w.heap.size w4).alloc (by omega) _).grown hg5 (by simp; omega) fun k hk => (World.ownsRow.lt ho4 k hk).1
        go_roundw
        case rel =>
          refine ⟨j + 1, _, v4, rfl, by omega, by go_num, ?_, ?_, grown_below9 hG4 hb5⟩
          · rw [HRow.out]
            unfold OwnsP
            rw [List.length_append, List.length_singleton, pairsV_append]
            exact ho5
          · rw [HRow.out]
            exact hR4.below hb5 (by omega)
        case measure => simp only [intOf]; omega
    · obtain rfl : j = N := by omega
      obtain ⟨p9, c9, hv9, -, -, -⟩ := id ho.has
      generalize hl9 : (rdN j s0).1.length = n9 at hv9
      clear hl9
      subst hv9
      go_wp2
      go_ret
      refine ⟨_, _, _, (rdN j s0).2, rfl, ⟨v', hR⟩, hI2, hBy2, Nat.le_trans hln hl0, hg, ?_⟩
      rcases HE.out with ⟨h1, h2, h3⟩ | ⟨h1, h2⟩
      · left
        subst h2
        subst h1
        exact ⟨rfl, h3⟩
      · right
        rw [HP.out, ← h2, ← h1]
        exact ⟨rfl, ho⟩
end Go.Proofs.Ytomhmoedicajoaa
