/-
  The walk of QuorumMeets.
-/
import Derived.Test.YtjaoljhbnbaeaaaQaI
import Derived.Test.YtjaoljhbnbaeaaaQaH
import Derived.Test.YtjaoljhbnbaeaaaQaJ
namespace Go.Proofs.Ytjaoljhbnbaeaaa
open Go.RowKit Go.Shelf

def inc14 (a l : List Int) (i : Nat) : Nat := (l.take i).countP fun n => a.contains n
theorem inc14_succ (a l : List Int) (i : Nat) (h : i < l.length) : inc14 a l (i + 1) = inc14 a l i + if a.contains (l.getD i 0) = true then 1 else 0 := by
  unfold inc14
  rw [List.take_add_one, List.getElem?_eq_getElem h, List.getD_eq_getElem?_getD, List.getElem?_eq_getElem h, List.countP_append]
  simp only [Option.toList_some, Option.getD_some, List.countP_singleton]
theorem inc14_all (a l : List Int) : inc14 a l l.length = in14 a l := by
  unfold inc14 in14; rw [List.take_length]
theorem inc14_le (a l : List Int) (i : Nat) : inc14 a l i ≤ l.length := by
  unfold inc14; exact Nat.le_trans List.countP_le_length (by rw [List.length_take]; omega)

set_option maxRecDepth 100000 in
set_option maxHeartbeats 2000000 in
theorem quorumMeets_of (u v t : Value) (a b l : List Int) (w : World) (ha : HasI w u a) (hb : HasI w v b) (hl : HasI w t l) :
    Calls Try.prog 5 #[u, v, t] w fun e w' => e = .returned (.bool true) ∧ Below w.heap.size w w' := by
  obtain ⟨pa, ca, rfl, hca, -⟩ := ha.parts15
  obtain ⟨pb, cb, rfl, hcb, -⟩ := hb.parts15
  obtain ⟨p, c, rfl, hc, hx⟩ := hl.parts15
  by_cases hs : a.length ≤ 100 ∧ b.length ≤ 100 ∧ l.length ≤ 100
  · obtain ⟨la, lb, ll⟩ := hs
    have g1 : ¬ (a.length : Int) > 100 := by omega
    have g2 : ¬ (b.length : Int) > 100 := by omega
    have g3 : ¬ (l.length : Int) > 100 := by omega
    have hin1 : maj14 l.length ≤ in14 a l → maj14 l.length ≤ in14 b l → 0 < l.length → meet14 a b l = true := two_meet a b l
    go_enter Try.func5, Try.ntmps5
    go_wp2_with fail
    refine (meet_any _ _ _ a b l w ha hb hl (by omega) (by omega) (by omega)).mono ?_
    rintro e w1 ⟨rfl, hb1⟩
    go_wp2_with fail
    refine (rmeet_any _ _ _ a b l w1 (ha.below hb1 (Nat.le_refl _)) (hb.below hb1 (Nat.le_refl _)) (hl.below hb1 (Nat.le_refl _)) (by omega) (by omega) (by omega)).mono ?_
    rintro e w2 ⟨rfl, k2, hw2⟩
    have hb2 : Below w.heap.size w w2 := by rw [hw2]; exact below_drew14 hb1
    clear hw2 hb1
    go_wp2_with fail
    refine (meet_any _ _ _ a b l w2 (ha.below hb2 (Nat.le_refl _)) (hb.below hb2 (Nat.le_refl _)) (hl.below hb2 (Nat.le_refl _)) (by omega) (by omega) (by omega)).mono ?_
    rintro e w3 ⟨rfl, hb3⟩
    have hb3 := hb2.trans (hb3.mono hb2.size)
    go_wp2_with fail
    refine (meet_any _ _ _ b a l w3 (hb.below hb3 (Nat.le_refl _)) (ha.below hb3 (Nat.le_refl _)) (hl.below hb3 (Nat.le_refl _)) (by omega) (by omega) (by omega)).mono ?_
    rintro e w4 ⟨rfl, hb4⟩
    have hb4 := hb3.trans (hb4.mono hb3.size)
    rw [meet_comm b a l]
    obtain ⟨R, hR⟩ : ∃ R, R = meet14 a b l := ⟨_, rfl⟩
    rw [← hR]
    have HR : Hid (R = meet14 a b l) := hR
    have hRR : (R != R) = false := by simp
    clear hR hb2 hb3
    go_wp2
    have kF : ∀ x k j, j ≤ l.length → Calls Try.prog 18 #[.slice p j c, .int .i64 x] (w4.drewN k) fun e w' => e = .returned (.bool ((l.take j).contains x)) ∧ ∃ q, w' = w4.drewN q := fun x k j hj =>
      (rhas_any _ (l.take j) x (w4.drewN k) (HasI.takeN (hl.below (below_drew14 hb4) (Nat.le_refl _)) j hj) (by rw [List.length_take]; omega)).mono (by rintro e w' ⟨rfl, q, rfl⟩; exact ⟨rfl, _, World.drewN_drewN _ _ _⟩)
    have kA : ∀ x k, Calls Try.prog 18 #[.slice pa a.length ca, .int .i64 x] (w4.drewN k) fun e w' => e = .returned (.bool (a.contains x)) ∧ ∃ q, w' = w4.drewN q := fun x k =>
      (rhas_any _ a x (w4.drewN k) (ha.below (below_drew14 hb4) (Nat.le_refl _)) (by omega)).mono (by rintro e w' ⟨rfl, q, rfl⟩; exact ⟨rfl, _, World.drewN_drewN _ _ _⟩)
    have kB : ∀ x k, Calls Try.prog 18 #[.slice pb b.length cb, .int .i64 x] (w4.drewN k) fun e w' => e = .returned (.bool (b.contains x)) ∧ ∃ q, w' = w4.drewN q := fun x k =>
      (rhas_any _ b x (w4.drewN k) (hb.below (below_drew14 hb4) (Nat.le_refl _)) (by omega)).mono (by rintro e w' ⟨rfl, q, rfl⟩; exact ⟨rfl, _, World.drewN_drewN _ _ _⟩)
    have kMeet : ∀ k, Calls Try.prog 16 #[.slice pa a.length ca, .slice pb b.length cb, .slice p l.length c] (w4.drewN k) fun e w' => e = .returned (.bool R) ∧ Below w4.heap.size (w4.drewN k) w' := fun k =>
      (meet_any _ _ _ a b l (w4.drewN k) (ha.below (below_drew14 hb4) (Nat.le_refl _)) (hb.below (below_drew14 hb4) (Nat.le_refl _)) (hl.below (below_drew14 hb4) (Nat.le_refl _)) (by omega) (by omega) (by omega)).mono (by rintro e w' ⟨rfl, hq⟩; exact ⟨by rw [HR.out], hq⟩)
    have hmaj := majI_nat l.length
    obtain ⟨m, hm⟩ : ∃ m, m = maj14 l.length := ⟨_, rfl⟩
    have HT : Hid (m ≤ in14 a l → m ≤ in14 b l → 0 < l.length → R = true) := by rw [hm, HR.out]; exact hin1
    rw [← hm] at hmaj
    have hxw := fun k => hx (w4.drewN k) (below_drew14 hb4)
    clear hm hin1 hx ha hb hl hRR HR hb3
    obtain ⟨n, hn⟩ : ∃ n, n = l.length := ⟨_, rfl⟩
    rw [← hn] at ll g3 hc hmaj hxw kF kMeet ⊢
    have HN : Hid (n = l.length) := hn
    clear hn
    go_loopg [7, 8, 48] n (fun g s7 s8 t wr => ∃ j k x y : Nat, j ≤ n ∧ n - j ≤ g ∧ t = .int .i64 j ∧ s7 = .int .i64 x ∧ s8 = .int .i64 y ∧ x ≤ 100 ∧ y ≤ 100 ∧ Hid (inc14 a l j = x ∧ inc14 b l j = y) ∧ wr = w4.drewN k)
    case atStart => exact ⟨0, 0, 0, 0, by omega, by omega, rfl, rfl, rfl, by omega, by omega, ⟨rfl, rfl⟩, rfl⟩
    case round =>
      obtain ⟨j, k, x, y, hj, hg, rfl, rfl, rfl, hx1, hy1, hsum, rfl⟩ := hrel
      by_cases hlt : j < n
      · cases gk with
        | zero => omega
        | succ g0 =>
          obtain ⟨bb, o, rfl, e1⟩ := hxw k j hlt
          have hj1 : (j : Int) < (n : Int) := by omega
          have q1 := inc14_succ a l j (by rw [← HN.out]; exact hlt)
          have q2 := inc14_succ b l j (by rw [← HN.out]; exact hlt)
          have l1 := inc14_le a l (j + 1)
          have l2 := inc14_le b l (j + 1)
          rw [hsum.out.1] at q1
          rw [hsum.out.2] at q2
          rw [← HN.out] at l1 l2
          rw [q1] at l1
          rw [q2] at l2
          have QQ : Hid (inc14 a l (j + 1) = x + (if a.contains (l.getD j 0) = true then 1 else 0) ∧ inc14 b l (j + 1) = y + (if b.contains (l.getD j 0) = true then 1 else 0)) := ⟨q1, q2⟩
          have kF' := fun k => kF (l.getD j 0) k j hj
          have kA' := kA (l.getD j 0)
          have kB' := kB (l.getD j 0)
          clear hsum q1 q2 hxw kF kA kB kMeet
          generalize l.getD j 0 = z at *
          cases hcf : (l.take j).contains z with
          | true =>
            rw [hcf] at kF'
            clear hcf QQ l1 l2
            go_wp2_with fail
            refine (kF' _).mono ?_
            rintro e w5 ⟨rfl, k5, rfl⟩
            go_wp2_with fail
            refine (lives14 _).mono ?_
            rintro e w7 ⟨rfl, hb7⟩
            go_wp2
            go_ret
            exact ⟨rfl, (below_drew14 hb4).trans (hb7.mono hb4.size)⟩
          | false =>
            rw [hcf] at kF'
            clear hcf
            cases hca : a.contains z <;> cases hcb : b.contains z
            · rw [hca] at kA' l1
              rw [hcb] at kB' l2
              simp only [Bool.false_eq_true, if_false] at l1
              simp only [Bool.false_eq_true, if_false] at l2
              have Q2 : Hid (inc14 a l (j + 1) = x ∧ inc14 b l (j + 1) = y) := by
                have := QQ.out
                rw [hca, hcb] at this
                simp only [Bool.false_eq_true, if_false, Nat.add_zero] at this
                exact this
              clear QQ hca hcb
              go_wp2_with fail
              refine (kF' _).mono ?_
              rintro e w5 ⟨rfl, k5, rfl⟩
              go_wp2_with fail
              refine (kA' _).mono ?_
              rintro e w5 ⟨rfl, k6, rfl⟩
              go_wp2_with fail
              refine (kB' _).mono ?_
              rintro e w5 ⟨rfl, k7, rfl⟩
              go_wp2
              go_roundg g0
              case rel => exact ⟨j + 1, k7, x, y, by omega, by omega, by simp, rfl, rfl, by omega, by omega, Q2, rfl⟩
              case measure => omega
            · rw [hca] at kA' l1
              rw [hcb] at kB' l2
              simp only [Bool.false_eq_true, if_false] at l1
              simp only [if_true] at l2
              have Q2 : Hid (inc14 a l (j + 1) = x ∧ inc14 b l (j + 1) = y + 1) := by
                have := QQ.out
                rw [hca, hcb] at this
                simp only [if_true, Bool.false_eq_true, if_false, Nat.add_zero] at this
                exact this
              clear QQ hca hcb
              go_wp2_with fail
              refine (kF' _).mono ?_
              rintro e w5 ⟨rfl, k5, rfl⟩
              go_wp2_with fail
              refine (kA' _).mono ?_
              rintro e w5 ⟨rfl, k6, rfl⟩
              go_wp2_with fail
              refine (kB' _).mono ?_
              rintro e w5 ⟨rfl, k7, rfl⟩
              go_wp2
              go_roundg g0
              case rel => exact ⟨j + 1, k7, x, y + 1, by omega, by omega, by simp, rfl, by simp, by omega, by omega, Q2, rfl⟩
              case measure => omega
            · rw [hca] at kA' l1
              rw [hcb] at kB' l2
              simp only [if_true] at l1
              simp only [Bool.false_eq_true, if_false] at l2
              have Q2 : Hid (inc14 a l (j + 1) = x + 1 ∧ inc14 b l (j + 1) = y) := by
                have := QQ.out
                rw [hca, hcb] at this
                simp only [if_true, Bool.false_eq_true, if_false, Nat.add_zero] at this
                exact this
              clear QQ hca hcb
              go_wp2_with fail
              refine (kF' _).mono ?_
              rintro e w5 ⟨rfl, k5, rfl⟩
              go_wp2_with fail
              refine (kA' _).mono ?_
              rintro e w5 ⟨rfl, k6, rfl⟩
              go_wp2_with fail
              refine (kB' _).mono ?_
              rintro e w5 ⟨rfl, k7, rfl⟩
              go_wp2
              go_roundg g0
              case rel => exact ⟨j + 1, k7, x + 1, y, by omega, by omega, by simp, by simp, rfl, by omega, by omega, Q2, rfl⟩
              case measure => omega
            · rw [hca] at kA' l1
              rw [hcb] at kB' l2
              simp only [if_true] at l1
              simp only [if_true] at l2
              have Q2 : Hid (inc14 a l (j + 1) = x + 1 ∧ inc14 b l (j + 1) = y + 1) := by
                have := QQ.out
                rw [hca, hcb] at this
                simp only [if_true] at this
                exact this
              clear QQ hca hcb
              go_wp2_with fail
              refine (kF' _).mono ?_
              rintro e w5 ⟨rfl, k5, rfl⟩
              go_wp2_with fail
              refine (kA' _).mono ?_
              rintro e w5 ⟨rfl, k6, rfl⟩
              go_wp2_with fail
              refine (kB' _).mono ?_
              rintro e w5 ⟨rfl, k7, rfl⟩
              go_wp2
              go_roundg g0
              case rel => exact ⟨j + 1, k7, x + 1, y + 1, by omega, by omega, by simp, by simp, by simp, by omega, by omega, Q2, rfl⟩
              case measure => omega
      · obtain rfl : j = n := by omega
        have ht : m ≤ x → m ≤ y → 0 < j → R = true := by
          have := HT.out
          rw [← inc14_all, ← inc14_all, ← HN.out, hsum.out.1, hsum.out.2] at this
          exact this
        have HT2 : Hid (m ≤ x → m ≤ y → 0 < j → R = true) := ht
        clear ht HT hsum hxw kF kA kB
        go_wp2_with fail
        refine (maj_any _ _ (by omega)).mono ?_
        rintro e w5 ⟨rfl, rfl⟩
        rw [hmaj]
        by_cases h0 : j = 0
        · have h0' : ((j : Int) == 0) = true := by rw [h0]; rfl
          clear kMeet
          go_wp2_with fail
          refine (lives14 _).mono ?_
          rintro e w7 ⟨rfl, hb7⟩
          go_wp2
          go_ret
          exact ⟨rfl, (below_drew14 hb4).trans (hb7.mono hb4.size)⟩
        · have h0' : ((j : Int) == 0) = false := by rw [beq_eq_false_iff_ne]; omega
          by_cases hx2 : x < m
          · clear kMeet
            go_wp2_with fail
            refine (lives14 _).mono ?_
            rintro e w7 ⟨rfl, hb7⟩
            go_wp2
            go_ret
            exact ⟨rfl, (below_drew14 hb4).trans (hb7.mono hb4.size)⟩
          · by_cases hy2 : y < m
            · clear kMeet
              go_wp2_with fail
              refine (lives14 _).mono ?_
              rintro e w7 ⟨rfl, hb7⟩
              go_wp2
              go_ret
              exact ⟨rfl, (below_drew14 hb4).trans (hb7.mono hb4.size)⟩
            · obtain rfl : R = true := HT2.out (by omega) (by omega) (by omega)
              go_wp2_with fail
              refine (kMeet _).mono ?_
              rintro e w5 ⟨rfl, hb5⟩
              have hb6 : Below w.heap.size w w5 := (below_drew14 hb4).trans (hb5.mono hb4.size)
              go_wp2_with fail
              refine (lives14 _).mono ?_
              rintro e w7 ⟨rfl, hb7⟩
              go_wp2
              go_ret
              exact ⟨rfl, hb6.trans (hb7.mono hb6.size)⟩
  · have hs' : (a.length : Int) > 100 ∨ (b.length : Int) > 100 ∨ (l.length : Int) > 100 := by omega
    clear hx ha hb hl hs
    by_cases g1 : (a.length : Int) > 100
    · clear hs'
      go_enter Try.func5, Try.ntmps5
      go_wp2_with (refine (lives14 _).mono ?_; rintro e w1 ⟨rfl, hb⟩)
      go_ret
      exact ⟨rfl, hb⟩
    · by_cases g2 : (b.length : Int) > 100
      · clear hs'
        go_enter Try.func5, Try.ntmps5
        go_wp2_with (refine (lives14 _).mono ?_; rintro e w1 ⟨rfl, hb⟩)
        go_ret
        exact ⟨rfl, hb⟩
      · have g3 : (l.length : Int) > 100 := (hs'.resolve_left g1).resolve_left g2
        clear hs'
        go_enter Try.func5, Try.ntmps5
        go_wp2_with (refine (lives14 _).mono ?_; rintro e w1 ⟨rfl, hb⟩)
        go_ret
        exact ⟨rfl, hb⟩
theorem quorumMeets_row (u : Value) (a : List Int) (v : Value) (b : List Int) (t : Value) (l : List Int) (w : World) (ha : HasI w u a) (hb : HasI w v b) (hl : HasI w t l) :
    Calls Try.prog 5 #[u, v, t] w fun e w' => e = .returned (.bool true) ∧ Below w.heap.size w w' := quorumMeets_of u v t a b l w ha hb hl
end Go.Proofs.Ytjaoljhbnbaeaaa
