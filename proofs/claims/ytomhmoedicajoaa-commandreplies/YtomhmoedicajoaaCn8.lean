/-
  Contracts: command.ReadReply.
-/
import Derived.Test.YtomhmoedicajoaaCn7
namespace Go.Proofs.Ytomhmoedicajoaa
open Go.RowKit

theorem readR9_is (xs : List Int) : readR9 xs = if pairsOk (rdH9 xs).2 then (repOf9 (rdH9 xs).1 (pairsS (rdH9 xs).2).1, 0) else (zeroR9, 8) := by
  unfold readR9 okR9 pairsOk pairsS rdP9 rdK9 rdT9
  rfl
theorem rdH9_is (xs : List Int) : rdH9 xs = (((int9 (xs, false)).1, (int9 (int9 (xs, false)).2).1, (bool9 (int9 (int9 (xs, false)).2).2).1, (txt9 (bool9 (int9 (int9 (xs, false)).2).2).2).1), (txt9 (bool9 (int9 (int9 (xs, false)).2).2).2).2) := by
  unfold rdH9
  rfl

set_option maxRecDepth 100000 in
set_option maxHeartbeats 1500000 in
theorem readR_any (v : Value) (xs : List Int) (w : World) (hv : Has w v xs) (hB : IsB xs) (hl : xs.length ≤ 1073741824) :
    Calls Try.prog 23 #[v] w fun e w' => ∃ (a : Option Addr) (n k : Nat), e = .returned (.tuple #[.agg ((readR9 xs).1.arr (.slice a n k)), .int .i64 (readR9 xs).2]) ∧ HasP w' (.slice a n k) (readR9 xs).1.l ∧ Below w.heap.size w w' := by
  have hR0 : RdR w _ (xs, false) zeroR9 (.slice none 0 0) := RdR.new (t := 61) hv hB hl
  have hmf : ∀ (fn : Fn) (first cap : Array Value) (w : World), (Instr.makeFunc fn first cap).run Try.prog w = .ok (.func fn first cap) w := fun _ _ _ _ => rfl
  have HC : Hid (rdH9 xs = (((int9 (xs, false)).1, (int9 (int9 (xs, false)).2).1, (bool9 (int9 (int9 (xs, false)).2).2).1, (txt9 (bool9 (int9 (int9 (xs, false)).2).2).2).1), (txt9 (bool9 (int9 (int9 (xs, false)).2).2).2).2)) := rdH9_is xs
  have HR : Hid (readR9 xs = if pairsOk (rdH9 xs).2 then (repOf9 (rdH9 xs).1 (pairsS (rdH9 xs).2).1, 0) else (zeroR9, 8)) := readR9_is xs
  obtain ⟨pb, cb, hvb, -, -, -⟩ := id hv
  generalize hnb : xs.length = nb at hvb
  subst hvb
  clear hnb hv
  generalize ((xs, false) : List Int × Bool) = S0 at *
  unfold zeroR9 Rep9.arr at hR0
  dsimp only at hR0
  go_enter Try.func23, Try.ntmps23
  go_wp2_with fail
  refine hR0.int.mono ?_
  rintro e w1 ⟨rfl, hR1⟩
  clear hR0
  generalize int9 S0 = A at *
  obtain ⟨z0, S1⟩ := A
  dsimp only at hR1 HC
  go_wp2_with fail
  refine hR1.int.mono ?_
  rintro e w2 ⟨rfl, hR2⟩
  clear hR1
  generalize int9 S1 = A at *
  obtain ⟨z1, S2⟩ := A
  dsimp only at hR2 HC
  have f2 := hR2.cells.1
  obtain ⟨c0, c1, c2, c3, c4⟩ := hR2.box.cells
  dsimp only at c0 c1 c2 c3 c4
  go_wp2_with fail
  have hQ2 := (hR2.put (c' := ⟨z0, false, em9, 0, []⟩) (u' := .slice none 0 0) 0 (.int .i64 z0) (by omega) rfl).put (c' := ⟨z0, false, em9, z1, []⟩) (u' := .slice none 0 0) 3 (.int .i64 z1) (by omega) rfl
  clear hR2 f2 c0 c1 c2 c3 c4
  generalize (w2.setCell ⟨w.heap.size + 1 + 1, 0, none⟩ (.int .i64 z0)).setCell ⟨w.heap.size + 1 + 1, 3, none⟩ (.int .i64 z1) = x2 at *
  refine hQ2.bool.mono ?_
  rintro e w3 ⟨rfl, hR3⟩
  clear hQ2
  generalize bool9 S2 = A at *
  obtain ⟨z2, S3⟩ := A
  dsimp only at hR3 HC
  have f2 := hR3.cells.1
  obtain ⟨c0, c1, c2, c3, c4⟩ := hR3.box.cells
  dsimp only at c0 c1 c2 c3 c4
  go_wp2_with fail
  have hQ3 := hR3.put (c' := ⟨z0, z2, em9, z1, []⟩) (u' := .slice none 0 0) 1 (.bool z2) (by omega) rfl
  clear hR3 f2 c0 c1 c2 c3 c4
  generalize w3.setCell ⟨w.heap.size + 1 + 1, 1, none⟩ (.bool z2) = x3 at *
  refine hQ3.text.mono ?_
  rintro e w4 ⟨rfl, hR4⟩
  clear hQ3
  generalize txt9 S3 = A at *
  obtain ⟨z3, S4⟩ := A
  dsimp only at hR4 HC
  have f2 := hR4.cells.1
  obtain ⟨c0, c1, c2, c3, c4⟩ := hR4.box.cells
  dsimp only at c0 c1 c2 c3 c4
  go_wp2_with fail
  have hQ4 := hR4.put (c' := ⟨z0, z2, z3, z1, []⟩) (u' := .slice none 0 0) 2 (.string z3) (by omega) rfl
  clear hR4 f2 c0 c1 c2 c3 c4
  generalize w4.setCell ⟨w.heap.size + 1 + 1, 2, none⟩ (.string z3) = x4 at *
  have hlt4 := hQ4.box.lt
  rw [HC.out] at HR
  dsimp only [repOf9] at HR
  refine hQ4.pairs.mono ?_
  rintro e w5 ⟨a, n, k, T, rfl, hR5, hd⟩
  clear hQ4 HC
  have f2 := hR5.cells.1
  obtain ⟨c0, c1, c2, c3, c4⟩ := hR5.box.cells
  dsimp only at c0 c1 c2 c3 c4
  have hd2 : (T.2 = true ∧ pairsOk S4 = false) ∨ (T = (pairsS S4).2 ∧ OwnsP (w5.setCell ⟨w.heap.size + 1 + 1, 4, none⟩ (.slice a n k)) x4.heap.size (.slice a n k) (pairsS S4).1) := by
    rcases hd with h | ⟨h1, h2⟩
    · exact .inl h
    · exact .inr ⟨h1, h2.kept7 (grown_set _ _ _ _) hlt4⟩
  go_wp2_with fail
  have hQ5 := hR5.put (c' := ⟨z0, z2, z3, z1, []⟩) (u' := .slice a n k) 4 (.slice a n k) (by omega) rfl
  clear hR5 f2 c0 c1 c2 c3 c4 hd
  generalize w5.setCell ⟨w.heap.size + 1 + 1, 4, none⟩ (.slice a n k) = x5 at *
  have hfin := hQ5.fin
  have f0 := hQ5.cells.2
  obtain ⟨r0, r1, r2, r3, r4⟩ := hQ5.res.cells
  dsimp only [zeroR9] at r0 r1 r2 r3 r4
  obtain ⟨c0, c1, c2, c3, c4⟩ := hQ5.box.cells
  dsimp only at c0 c1 c2 c3 c4
  have HD : Hid (pairsOk S4 = ((pairsS S4).2.1.isEmpty && !(pairsS S4).2.2)) := rfl
  have hcase : (((T.1.isEmpty && !T.2) = false ∧ readR9 xs = (zeroR9, 8)) ∨ ((T.1.isEmpty && !T.2) = true ∧ readR9 xs = (⟨z0, z2, z3, z1, (pairsS S4).1⟩, 0) ∧ OwnsP x5 x4.heap.size (.slice a n k) (pairsS S4).1)) := by
    rcases hd2 with ⟨h1, h2⟩ | ⟨h1, h2⟩
    · left
      rw [h1, HR.out, h2]
      exact ⟨by simp, rfl⟩
    · rw [h1]
      cases hp : pairsOk S4 with
      | false =>
        left
        rw [← HD.out, hp, HR.out, hp]
        exact ⟨rfl, rfl⟩
      | true =>
        right
        rw [← HD.out, hp, HR.out, hp]
        exact ⟨rfl, rfl, h2⟩
  clear HR HD hd2
  generalize (T.1.isEmpty && !T.2) = fi at *
  rcases hcase with ⟨rfl, hr⟩ | ⟨rfl, hr, ho⟩
  · have HR2 : Hid (readR9 xs = (zeroR9, 8)) := hr
    clear hr
    refine same_mono hfin ?_
    go_wp2
    have hF := fillR9 hQ5.res hQ5.bel (Nat.le_refl _) 0 false em9 0 none 0 0 []
    refine bodyPost_ret (ret_cell9 rfl _ _ w.heap.size _ _ _ _ rfl hF.1 Try.underlying39 rfl (by kernel_rfl)) rfl ⟨none, 0, 0, ?_, ?_, hF.2⟩
    · rw [HR2.out]
      rfl
    · rw [HR2.out]
      exact HasP.nil0 _
  · have HR2 : Hid (readR9 xs = (⟨z0, z2, z3, z1, (pairsS S4).1⟩, 0)) := hr
    clear hr
    refine same_mono hfin ?_
    go_wp2
    have hF := fillR9 hQ5.res hQ5.bel (Nat.le_refl _) z0 z2 z3 z1 a n k (pairsS S4).1
    have hP := fillP9 (b := w.heap.size) ho (by omega) z0 z2 z3 z1 a n k
    refine bodyPost_ret (ret_cell9 rfl _ _ w.heap.size _ _ _ _ rfl hF.1 Try.underlying39 rfl (by kernel_rfl)) rfl ⟨a, n, k, ?_, ?_, hF.2⟩
    · rw [HR2.out]
      rfl
    · rw [HR2.out]
      exact hP.has
end Go.Proofs.Ytomhmoedicajoaa
