/-
  Contracts: slices.BinarySearch of ints that rise; Meet of quorum.
-/
import Derived.Test.YtjaoljhbnbaeaaaQaG
import Derived.Shelf.Slices.SearchI
import Derived.Shelf.Slices.Empties
import Derived.WalkMore
import Derived.Deep.LoopGhost
import Derived.Ground.Names2Prog
namespace Go.Proofs.Ytjaoljhbnbaeaaa
open Go.RowKit Go.Shelf

shelf_lay Lays2.n25 Nm2 25 at Try as Try.bsIL

theorem bs_any (g n c : Nat) (xs : List Int) (x : Int) (w : World) (h : HasI w (.slice (some ⟨g, 0, none⟩) n c) xs) (hs : xs.Pairwise (· ≤ ·)) (hl : xs.length ≤ 100000) :
    Calls Try.prog 21 #[.slice (some ⟨g, 0, none⟩) n c, .int .i64 x] w fun e w' => ∃ k q : Nat, e = .returned (.tuple #[.int .i64 k, .bool (xs.contains x)]) ∧ w' = w.drewN q := by
  obtain ⟨p', c', hv, _, _, hx⟩ := h
  simp only [Value.slice.injEq] at hv
  obtain ⟨rfl, rfl, rfl⟩ := hv
  by_cases h0 : xs.length = 0
  · obtain rfl := List.eq_nil_of_length_eq_zero h0
    have hc := Any.slices_BinarySearch_int_empty Try.bsIL (some ⟨g, 0, none⟩) c x w
    change Calls Try.prog 21 _ _ _ at hc
    refine hc.mono ?_
    rintro e w' ⟨rfl, rfl⟩
    exact ⟨0, 0, rfl, rfl⟩
  · obtain ⟨b, o, hp, hlt, hcell⟩ := hx (by omega)
    cases hp
    have hc := Any.slices_BinarySearch_int Try.bsIL g 0 xs.length c xs x w (Nat.le_refl _) (by omega) hcell (by rw [List.take_length]; exact hs)
    change Calls Try.prog 21 _ _ _ at hc
    refine hc.mono ?_
    rintro e w' ⟨rfl, q, rfl⟩
    rw [List.take_length]
    exact ⟨_, q, rfl, rfl⟩

set_option maxRecDepth 100000 in
set_option maxHeartbeats 2000000 in
theorem meet_any (u v t : Value) (a b l : List Int) (w : World) (ha : HasI w u a) (hb : HasI w v b) (hl : HasI w t l) (la : a.length ≤ 100000) (lb : b.length ≤ 100000) (ll : l.length ≤ 100000) :
    Calls Try.prog 16 #[u, v, t] w fun e w' => e = .returned (.bool (meet14 a b l)) ∧ Below w.heap.size w w' := by
  obtain ⟨p, c, rfl, hc, hx⟩ := hl.parts14
  obtain ⟨pa, ca, rfl, hca, hxa⟩ := ha.parts14
  obtain ⟨pb, cb, rfl, hcb, hxb⟩ := hb.parts14
  clear hl
  obtain ⟨R, hR⟩ : ∃ R, R = meet14 a b l := ⟨_, rfl⟩
  rw [← hR]
  have HR : Hid (R = meet14 a b l) := hR
  clear hR hxa hxb
  go_enter Try.func16, Try.ntmps16
  go_wp2
  go_step3
  go_wp2_with fail
  refine (sorted_any pa a.length ca a w ha la).mono ?_
  rintro e w1 ⟨g1, rfl, hO1, hb1⟩
  go_wp2_with fail
  refine (sorted_any pb b.length cb b w1 (hb.below hb1 (Nat.le_refl _)) lb).mono ?_
  rintro e w2 ⟨g2, rfl, hO2, hb2⟩
  go_wp2
  go_step3
  go_wp2
  have hbw : Below w.heap.size w w2 := hb1.trans (hb2.mono hb1.size)
  have hB1 : HasI w2 (.slice (some ⟨g1, 0, none⟩) a.length a.length) (srt14 a) := hO1.has.below hb2 (Nat.le_refl _)
  generalize hW : w2.alloc (.cells #[.slice (some ⟨g1, 0, none⟩) a.length a.length, .slice (some ⟨g2, 0, none⟩) b.length b.length] 26) = W at *
  have hbW : Below w2.heap.size w2 W := by rw [← hW]; exact (Below.refl _ _).alloc (Nat.le_refl _) _
  have hbT : Below w.heap.size w W := hbw.trans (hbW.mono hbw.size)
  have d0 : ∀ q, (W.drewN q).cell? ⟨w2.heap.size, 0, none⟩ = some (.slice (some ⟨g1, 0, none⟩) a.length a.length) := fun q => by rw [← hW]; exact cell_of_row _ w2.heap.size 0 _ _ (0, 0) (heap_alloc_new w2 _)
  have d1 : ∀ q, (W.drewN q).cell? ⟨w2.heap.size, 1, none⟩ = some (.slice (some ⟨g2, 0, none⟩) b.length b.length) := fun q => by rw [← hW]; exact cell_of_row _ w2.heap.size 1 _ _ (0, 0) (heap_alloc_new w2 _)
  have c1 : ∀ q i, i < l.length → ∃ b o, p = some ⟨b, o, none⟩ ∧ (W.drewN q).cell? ⟨b, o + i, none⟩ = some (.int .i64 (l.getD i 0)) := fun q i hi => by
    obtain ⟨bb, o, rfl, hlt, hcl⟩ := hx i hi
    exact ⟨bb, o, rfl, (hbT.cell (p := ⟨bb, o + i, none⟩) hlt).trans hcl⟩
  have kA : ∀ x q, Calls Try.prog 21 #[.slice (some ⟨g1, 0, none⟩) a.length a.length, .int .i64 x] (W.drewN q) fun e w' => ∃ k r : Nat, e = .returned (.tuple #[.int .i64 k, .bool (a.contains x)]) ∧ w' = W.drewN r := fun x q =>
    (bs_any g1 a.length a.length (srt14 a) x (W.drewN q) (hB1.below (below_drew14 hbW) (Nat.le_refl _)) (srt_up a) (by rw [srt_len]; exact la)).mono (by
      rintro e w' ⟨k, r, rfl, rfl⟩
      exact ⟨k, _, by rw [(srt_perm a).contains_eq], World.drewN_drewN _ _ _⟩)
  have kB : ∀ x q, Calls Try.prog 21 #[.slice (some ⟨g2, 0, none⟩) b.length b.length, .int .i64 x] (W.drewN q) fun e w' => ∃ k r : Nat, e = .returned (.tuple #[.int .i64 k, .bool (b.contains x)]) ∧ w' = W.drewN r := fun x q =>
    (bs_any g2 b.length b.length (srt14 b) x (W.drewN q) (hO2.has.below (below_drew14 hbW) (Nat.le_refl _)) (srt_up b) (by rw [srt_len]; exact lb)).mono (by
      rintro e w' ⟨k, r, rfl, rfl⟩
      exact ⟨k, _, by rw [(srt_perm b).contains_eq], World.drewN_drewN _ _ _⟩)
  generalize hS : w2.heap.size = S at *
  clear hW hB1 hO1 hO2 hb1 hb2 hbw hbW hx ha hb hS
  go_loopg [21] l.length (fun g t wr => ∃ j k : Nat, j ≤ l.length ∧ l.length - j ≤ g ∧ t = .int .i64 j ∧ Hid (meet14 a b (l.take j) = false) ∧ wr = W.drewN k)
  case atStart => exact ⟨0, 0, by omega, by omega, rfl, rfl, rfl⟩
  case round =>
    obtain ⟨j, k, hj, hg, rfl, hs, rfl⟩ := hrel
    by_cases hlt : j < l.length
    · cases gk with
      | zero => omega
      | succ g0 =>
        obtain ⟨bb, o, rfl, c2⟩ := c1 k j hlt
        have hj1 : (j : Int) < (l.length : Int) := by omega
        have hsu := meet_take a b l j hlt
        rw [hs.out, Bool.false_or] at hsu
        have HF : Hid ((a.contains (l.getD j 0) && b.contains (l.getD j 0)) = true → R = true) := fun h => by rw [HR.out]; exact meet_found a b l j hlt h
        have HS : Hid (meet14 a b (l.take (j + 1)) = (a.contains (l.getD j 0) && b.contains (l.getD j 0))) := hsu
        have kA' := kA (l.getD j 0)
        have kB' := kB (l.getD j 0)
        clear hs hsu kA kB c1
        generalize l.getD j 0 = y at *
        go_wp2
        go_loopg [27] 2 (fun g t wr => ∃ i k : Nat, i ≤ 2 ∧ 2 - i ≤ g ∧ t = .int .i64 i ∧ Hid ((1 ≤ i → a.contains y = true) ∧ (2 ≤ i → b.contains y = true)) ∧ wr = W.drewN k)
        case atStart => exact ⟨0, k, by omega, by omega, rfl, ⟨fun h => by omega, fun h => by omega⟩, rfl⟩
        case round =>
          obtain ⟨i, k2, hi, hg2, rfl, hs2, rfl⟩ := hrel
          rcases (show i = 0 ∨ i = 1 ∨ i = 2 by omega) with rfl | rfl | rfl
          · cases gk with
            | zero => omega
            | succ g1' =>
              have e0 := d0 k2
              cases hca : a.contains y with
              | true =>
                have h2 : Hid ((1 ≤ 1 → a.contains y = true) ∧ (2 ≤ 1 → b.contains y = true)) := ⟨fun _ => hca, fun h => by omega⟩
                rw [hca] at kA'
                clear hca hs2
                go_wp2_with fail
                refine Calls.mono (kA' _) ?_
                rintro e w3 ⟨kk, r, rfl, rfl⟩
                go_wp2
                go_roundg g1'
                case rel => exact ⟨1, r, by omega, by omega, by simp, h2, rfl⟩
                case measure => omega
              | false =>
                have HS2 : Hid (meet14 a b (l.take (j + 1)) = false) := by have := HS.out; rw [hca, Bool.false_and] at this; exact this
                rw [hca] at kA'
                clear hca hs2 HS HF
                go_wp2_with fail
                refine Calls.mono (kA' _) ?_
                rintro e w3 ⟨kk, r, rfl, rfl⟩
                go_wp2
                go_roundg g0
                case rel => exact ⟨j + 1, r, by omega, by omega, by simp, HS2, rfl⟩
                case measure => omega
          · cases gk with
            | zero => omega
            | succ g1' =>
              have e0 := d1 k2
              cases hcb : b.contains y with
              | true =>
                have h2 : Hid ((1 ≤ 2 → a.contains y = true) ∧ (2 ≤ 2 → b.contains y = true)) := ⟨fun _ => hs2.out.1 (by omega), fun _ => hcb⟩
                rw [hcb] at kB'
                clear hcb hs2
                go_wp2_with fail
                refine Calls.mono (kB' _) ?_
                rintro e w3 ⟨kk, r, rfl, rfl⟩
                go_wp2
                go_roundg g1'
                case rel => exact ⟨2, r, by omega, by omega, by simp, h2, rfl⟩
                case measure => omega
              | false =>
                have HS2 : Hid (meet14 a b (l.take (j + 1)) = false) := by have := HS.out; rw [hcb, Bool.and_false] at this; exact this
                rw [hcb] at kB'
                clear hcb hs2 HS HF
                go_wp2_with fail
                refine Calls.mono (kB' _) ?_
                rintro e w3 ⟨kk, r, rfl, rfl⟩
                go_wp2
                go_roundg g0
                case rel => exact ⟨j + 1, r, by omega, by omega, by simp, HS2, rfl⟩
                case measure => omega
          · have hR1 : R = true := HF.out (by rw [hs2.out.1 (by omega), hs2.out.2 (by omega)]; rfl)
            clear hs2 HS HF
            go_wp2
            try rw [Exit.noGoto_ret]
            go_ret
            exact ⟨by rw [hR1]; rfl, below_drew14 hbT⟩
    · obtain rfl : j = l.length := by omega
      have hR1 : R = false := by rw [HR.out, ← hs.out, List.take_length]
      clear hs kA kB c1
      go_wp2
      try rw [Exit.noGoto_ret]
      go_ret
      exact ⟨by rw [hR1]; rfl, below_drew14 hbT⟩
end Go.Proofs.Ytjaoljhbnbaeaaa
