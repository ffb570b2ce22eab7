/-
  Contracts: corbelref09.Read.
-/
import Derived.Test.YtomhmoedicajoaaCmR
namespace Go.Proofs.Ytomhmoedicajoaa
open Go.RowKit

set_option maxRecDepth 100000 in
set_option maxHeartbeats 1500000 in
theorem rreadC_any (v : Value) (xs : List Int) (w : World) (hv : Has w v xs) (hB : IsB xs) (hl : xs.length ≤ 1099511627776) :
    Calls Try.prog 21 #[v] w fun e w' => e = .returned (.tuple #[.agg (readC9 xs).1.arr, .int .i64 (readC9 xs).2]) ∧ Below w.heap.size w w' := by
  have hR0 : RdC w _ (xs, false) zeroC9 := RdC.new (t := 65) hv hB hl
  have hmf : ∀ (fn : Fn) (first cap : Array Value) (w : World), (Instr.makeFunc fn first cap).run Try.prog w = .ok (.func fn first cap) w := fun _ _ _ _ => rfl
  have HC : Hid (rdC9 xs = (⟨(int9 (xs, false)).1, (int9 (int9 (xs, false)).2).1, (int9 (int9 (int9 (xs, false)).2).2).1, (txt9 (int9 (int9 (int9 (int9 (xs, false)).2).2).2).2).1, (txt9 (txt9 (int9 (int9 (int9 (int9 (xs, false)).2).2).2).2).2).1, (txt9 (txt9 (txt9 (int9 (int9 (int9 (int9 (xs, false)).2).2).2).2).2).2).1, (txt9 (txt9 (txt9 (txt9 (int9 (int9 (int9 (int9 (xs, false)).2).2).2).2).2).2).2).1, (int9 (int9 (int9 (int9 (xs, false)).2).2).2).1⟩, (txt9 (txt9 (txt9 (txt9 (int9 (int9 (int9 (int9 (xs, false)).2).2).2).2).2).2).2).2)) := rfl
  have HR : Hid (readC9 xs = if ((rdC9 xs).2.1.isEmpty && !(rdC9 xs).2.2) && good9 (rdC9 xs).1 then ((rdC9 xs).1, 0) else (zeroC9, 8)) := rfl
  obtain ⟨pb, cb, hvb, -, -, -⟩ := id hv
  generalize hnb : xs.length = nb at hvb
  subst hvb
  clear hnb hv
  generalize ((xs, false) : List Int × Bool) = S0 at *
  unfold zeroC9 Cmd9.arr at hR0
  dsimp only at hR0
  go_enter Try.func21, Try.ntmps21
  go_wp2_with fail
  refine hR0.rint.mono ?_
  rintro e w1 ⟨rfl, hQ0⟩
  clear hR0
  generalize int9 S0 = A at *
  obtain ⟨z0, S1⟩ := A
  dsimp only at hQ0 HC
  have f0 := hQ0.cells.1 0
  have c0 := hQ0.box.cells.1
  dsimp only at c0
  go_wp2_with fail
  have hR1 := hQ0.put (c' := ⟨z0, 0, 0, em9, em9, em9, em9, 0⟩) 0 (.int .i64 z0) (by omega) rfl
  clear hQ0 f0 c0
  generalize w1.setCell ⟨w.heap.size + 1 + 1, 0, none⟩ (.int .i64 z0) = x1 at *
  refine hR1.rint.mono ?_
  rintro e w2 ⟨rfl, hQ1⟩
  clear hR1
  generalize int9 S1 = A at *
  obtain ⟨z1, S2⟩ := A
  dsimp only at hQ1 HC
  have f1 := hQ1.cells.1 1
  have c1 := hQ1.box.cells.2.1
  dsimp only at c1
  go_wp2_with fail
  have hR2 := hQ1.put (c' := ⟨z0, z1, 0, em9, em9, em9, em9, 0⟩) 1 (.int .i64 z1) (by omega) rfl
  clear hQ1 f1 c1
  generalize w2.setCell ⟨w.heap.size + 1 + 1, 1, none⟩ (.int .i64 z1) = x2 at *
  refine hR2.rint.mono ?_
  rintro e w3 ⟨rfl, hQ2⟩
  clear hR2
  generalize int9 S2 = A at *
  obtain ⟨z2, S3⟩ := A
  dsimp only at hQ2 HC
  have f2 := hQ2.cells.1 2
  have c2 := hQ2.box.cells.2.2.1
  dsimp only at c2
  go_wp2_with fail
  have hR3 := hQ2.put (c' := ⟨z0, z1, z2, em9, em9, em9, em9, 0⟩) 2 (.int .i64 z2) (by omega) rfl
  clear hQ2 f2 c2
  generalize w3.setCell ⟨w.heap.size + 1 + 1, 2, none⟩ (.int .i64 z2) = x3 at *
  refine hR3.rint.mono ?_
  rintro e w4 ⟨rfl, hQ3⟩
  clear hR3
  generalize int9 S3 = A at *
  obtain ⟨z3, S4⟩ := A
  dsimp only at hQ3 HC
  have f3 := hQ3.cells.1 7
  have c3 := hQ3.box.cells.2.2.2.2.2.2.2
  dsimp only at c3
  go_wp2_with fail
  have hR4 := hQ3.put (c' := ⟨z0, z1, z2, em9, em9, em9, em9, z3⟩) 7 (.int .i64 z3) (by omega) rfl
  clear hQ3 f3 c3
  generalize w4.setCell ⟨w.heap.size + 1 + 1, 7, none⟩ (.int .i64 z3) = x4 at *
  refine hR4.rtext.mono ?_
  rintro e w5 ⟨rfl, hQ4⟩
  clear hR4
  generalize txt9 S4 = A at *
  obtain ⟨z4, S5⟩ := A
  dsimp only at hQ4 HC
  have f4 := hQ4.cells.1 3
  have c4 := hQ4.box.cells.2.2.2.1
  dsimp only at c4
  go_wp2_with fail
  have hR5 := hQ4.put (c' := ⟨z0, z1, z2, z4, em9, em9, em9, z3⟩) 3 (.string z4) (by omega) rfl
  clear hQ4 f4 c4
  generalize w5.setCell ⟨w.heap.size + 1 + 1, 3, none⟩ (.string z4) = x5 at *
  refine hR5.rtext.mono ?_
  rintro e w6 ⟨rfl, hQ5⟩
  clear hR5
  generalize txt9 S5 = A at *
  obtain ⟨z5, S6⟩ := A
  dsimp only at hQ5 HC
  have f5 := hQ5.cells.1 4
  have c5 := hQ5.box.cells.2.2.2.2.1
  dsimp only at c5
  go_wp2_with fail
  have hR6 := hQ5.put (c' := ⟨z0, z1, z2, z4, z5, em9, em9, z3⟩) 4 (.string z5) (by omega) rfl
  clear hQ5 f5 c5
  generalize w6.setCell ⟨w.heap.size + 1 + 1, 4, none⟩ (.string z5) = x6 at *
  refine hR6.rtext.mono ?_
  rintro e w7 ⟨rfl, hQ6⟩
  clear hR6
  generalize txt9 S6 = A at *
  obtain ⟨z6, S7⟩ := A
  dsimp only at hQ6 HC
  have f6 := hQ6.cells.1 5
  have c6 := hQ6.box.cells.2.2.2.2.2.1
  dsimp only at c6
  go_wp2_with fail
  have hR7 := hQ6.put (c' := ⟨z0, z1, z2, z4, z5, z6, em9, z3⟩) 5 (.string z6) (by omega) rfl
  clear hQ6 f6 c6
  generalize w7.setCell ⟨w.heap.size + 1 + 1, 5, none⟩ (.string z6) = x7 at *
  refine hR7.rtext.mono ?_
  rintro e w8 ⟨rfl, hQ7⟩
  clear hR7
  generalize txt9 S7 = A at *
  obtain ⟨z7, S8⟩ := A
  dsimp only at hQ7 HC
  have f7 := hQ7.cells.1 6
  have c7 := hQ7.box.cells.2.2.2.2.2.2.1
  dsimp only at c7
  go_wp2_with fail
  have hR8 := hQ7.put (c' := ⟨z0, z1, z2, z4, z5, z6, z7, z3⟩) 6 (.string z7) (by omega) rfl
  clear hQ7 f7 c7
  generalize w8.setCell ⟨w.heap.size + 1 + 1, 6, none⟩ (.string z7) = x8 at *
  have hfin := hR8.rfin
  rw [HC.out] at HR
  dsimp only at HR
  have hgd := rgood_any ⟨z0, z1, z2, z4, z5, z6, z7, z3⟩ x8
  obtain ⟨c0, c1, c2, c3, c4, c5, c6, c7⟩ := hR8.box.cells
  dsimp only at c0 c1 c2 c3 c4 c5 c6 c7
  generalize (S8.1.isEmpty && !S8.2) = fi at *
  cases fi with
  | false =>
    have HR2 : Hid (readC9 xs = (zeroC9, 8)) := by rw [Hid, HR.out]; rfl
    have f0 := hR8.cells.2
    obtain ⟨r0, r1, r2, r3, r4, r5, r6, r7⟩ := hR8.res.cells
    dsimp only [zeroC9] at r0 r1 r2 r3 r4 r5 r6 r7
    clear HR hgd
    refine same_mono hfin ?_
    go_wp2
    have hF := fill9 hR8.res hR8.bel (Nat.le_refl _) 0 0 0 em9 em9 em9 em9 0
    refine bodyPost_ret (ret_cell9 rfl _ _ w.heap.size _ _ _ _ rfl hF.1 Try.underlying23 rfl (by kernel_rfl)) rfl ⟨?_, hF.2⟩
    rw [HR2.out]
    rfl
  | true =>
    refine same_mono hfin ?_
    clear hfin
    go_wp2_with fail
    refine hgd.mono ?_
    rintro e y9 ⟨rfl, hb9⟩
    have hRb := hR8.below hb9
    have f0 := hRb.cells.2
    obtain ⟨r0, r1, r2, r3, r4, r5, r6, r7⟩ := hRb.res.cells
    dsimp only [zeroC9] at r0 r1 r2 r3 r4 r5 r6 r7
    obtain ⟨d0, d1, d2, d3, d4, d5, d6, d7⟩ := hRb.box.cells
    dsimp only at d0 d1 d2 d3 d4 d5 d6 d7
    clear hgd hR8 c0 c1 c2 c3 c4 c5 c6 c7
    generalize good9 _ = g at *
    cases g with
    | false =>
      have HR2 : Hid (readC9 xs = (zeroC9, 8)) := by rw [Hid, HR.out]; rfl
      clear HR
      go_wp2
      have hF := fill9 hRb.res hRb.bel (Nat.le_refl _) 0 0 0 em9 em9 em9 em9 0
      refine bodyPost_ret (ret_cell9 rfl _ _ w.heap.size _ _ _ _ rfl hF.1 Try.underlying23 rfl (by kernel_rfl)) rfl ⟨?_, hF.2⟩
      rw [HR2.out]
      rfl
    | true =>
      have HR2 : Hid (readC9 xs = (⟨z0, z1, z2, z4, z5, z6, z7, z3⟩, 0)) := by rw [Hid, HR.out]; rfl
      clear HR
      go_wp2
      have hF := fill9 hRb.res hRb.bel (Nat.le_refl _) z0 z1 z2 z4 z5 z6 z7 z3
      refine bodyPost_ret (ret_cell9 rfl _ _ w.heap.size _ _ _ _ rfl hF.1 Try.underlying23 rfl (by kernel_rfl)) rfl ⟨?_, hF.2⟩
      rw [HR2.out]
      rfl
end Go.Proofs.Ytomhmoedicajoaa
