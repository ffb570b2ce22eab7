/-
  Contracts: corbelref09.ReadReply.
-/
import Derived.Test.YtomhmoedicajoaaCn8
import Derived.Deep.DeepCutAuto
import Derived.Deep.RegionHeld3
namespace Go.Proofs.Ytomhmoedicajoaa
open Go.RowKit

theorem RdR.rtextG {w0 w : World} {S : List Int × Bool} {c : Rep9} {u : Value} (h : RdR w0 w S c u) :
    Calls Try.prog 42 #[.pointer (some ⟨w0.heap.size + 1, 0, none⟩)] w fun e w' => e = .returned (.string (txt9 S).1) ∧ RdR w0 w' (txt9 S).2 c u ∧ w.grownBy w' (some (w0.heap.size + 1)) := by
  obtain ⟨v, hv⟩ := h.rd
  refine (rtext_any w _ _ v _ _ hv h.inv h.isb (Nat.le_trans h.len (by decide))).mono ?_
  rintro e w' ⟨rfl, hr, hg⟩
  exact ⟨rfl, h.grow hr hg (h.inv.lose _) (loseS_isB h.isb _ _) (loseS_length _ _ _), hg⟩
/-- A turn of another block. -/
theorem RdR.keep {w0 w w' : World} {S : List Int × Bool} {c : Rep9} {u : Value} {y : Nat} (h : RdR w0 w S c u) (hg : w.grownBy w' (some y)) (hy : w0.heap.size + 1 + 1 < y) : RdR w0 w' S c u := by
  obtain ⟨v, hv⟩ := h.rd
  exact ⟨⟨v, hv.grown hg (by omega) (by omega)⟩, (hg.block _ h.box.lt (by intro e; have := Option.some.inj e; omega)).trans h.box, (hg.block _ h.res.lt (by intro e; have := Option.some.inj e; omega)).trans h.res,
    ⟨hg.os.trans h.bel.os, hg.tape.trans h.bel.tape, hg.output.trans h.bel.output, Nat.le_trans h.bel.size hg.size, fun k hk => (hg.block k (Nat.lt_of_lt_of_le hk h.bel.size) (by intro e; have := Option.some.inj e; omega)).trans (h.bel.block k hk)⟩, h.inv, h.isb, h.len⟩
theorem RdR.belowB {w0 w w' : World} {S : List Int × Bool} {c : Rep9} {u : Value} {B : Nat} (h : RdR w0 w S c u) (hb : Below B w w') (hB : w0.heap.size + 1 + 1 < B) : RdR w0 w' S c u := by
  obtain ⟨v, hv⟩ := h.rd
  exact ⟨⟨v, hv.below hb (by omega)⟩, (hb.block _ hB).trans h.box, (hb.block _ (by omega)).trans h.res, h.bel.trans (hb.mono (by omega)), h.inv, h.isb, h.len⟩

set_option maxRecDepth 100000 in
set_option maxHeartbeats 2500000 in
theorem rreadR_any (v : Value) (xs : List Int) (w : World) (hv : Has w v xs) (hB : IsB xs) (hl : xs.length ≤ 1073741824) :
    Calls Try.prog 24 #[v] w fun e w' => ∃ (a : Option Addr) (n k : Nat), e = .returned (.tuple #[.agg ((readR9 xs).1.arr (.slice a n k)), .int .i64 (readR9 xs).2]) ∧ HasP w' (.slice a n k) (readR9 xs).1.l ∧ Below w.heap.size w w' := by
  obtain ⟨i1, hi1, hz1, hs1, hb1⟩ := info_parts infoP
  have hR0 : RdR w _ (xs, false) zeroR9 (.slice none 0 0) := RdR.new (t := 65) hv hB hl
  have hmf : ∀ (fn : Fn) (first cap : Array Value) (w : World), (Instr.makeFunc fn first cap).run Try.prog w = .ok (.func fn first cap) w := fun _ _ _ _ => rfl
  have HC : Hid (rdH9 xs = (((int9 (xs, false)).1, (int9 (int9 (xs, false)).2).1, (bool9 (int9 (int9 (xs, false)).2).2).1, (txt9 (bool9 (int9 (int9 (xs, false)).2).2).2).1), (txt9 (bool9 (int9 (int9 (xs, false)).2).2).2).2)) := rdH9_is xs
  have HR : Hid (readR9 xs = if pairsOk (rdH9 xs).2 then (repOf9 (rdH9 xs).1 (pairsS (rdH9 xs).2).1, 0) else (zeroR9, 8)) := readR9_is xs
  obtain ⟨pb, cb, hvb, -, -, -⟩ := id hv
  generalize hnb : xs.length = nb at hvb
  subst hvb
  clear hnb hv
  generalize ((xs, false) : List Int × Bool) = S0 at *
  unfold zeroR9 Rep9.arr at hR0
  dsimp only at hR0
  go_enter Try.func24, Try.ntmps24
  go_wp2_with fail
  refine hR0.rint.mono ?_
  rintro e w1 ⟨rfl, hQ0⟩
  clear hR0
  generalize int9 S0 = A at *
  obtain ⟨z0, S1⟩ := A
  dsimp only at hQ0 HC
  have f0 := hQ0.cells.1 0
  have c0 := hQ0.box.cells.1
  dsimp only at c0
  go_wp2_with fail
  have hR1 := hQ0.put (c' := ⟨z0, false, em9, 0, []⟩) (u' := .slice none 0 0) 0 (.int .i64 z0) (by omega) rfl
  clear hQ0 f0 c0
  generalize w1.setCell ⟨w.heap.size + 1 + 1, 0, none⟩ (.int .i64 z0) = x1 at *
  refine hR1.rint.mono ?_
  rintro e w2 ⟨rfl, hQ1⟩
  clear hR1
  generalize int9 S1 = A at *
  obtain ⟨z1, S2⟩ := A
  dsimp only at hQ1 HC
  have f1 := hQ1.cells.1 3
  have c1 := hQ1.box.cells.2.2.2.1
  dsimp only at c1
  go_wp2_with fail
  have hR2 := hQ1.put (c' := ⟨z0, false, em9, z1, []⟩) (u' := .slice none 0 0) 3 (.int .i64 z1) (by omega) rfl
  clear hQ1 f1 c1
  generalize w2.setCell ⟨w.heap.size + 1 + 1, 3, none⟩ (.int .i64 z1) = x2 at *
  refine hR2.rbool.mono ?_
  rintro e w3 ⟨rfl, hQ2⟩
  clear hR2
  generalize bool9 S2 = A at *
  obtain ⟨z2, S3⟩ := A
  dsimp only at hQ2 HC
  have f2 := hQ2.cells.1 1
  have c2 := hQ2.box.cells.2.1
  dsimp only at c2
  go_wp2_with fail
  have hR3 := hQ2.put (c' := ⟨z0, z2, em9, z1, []⟩) (u' := .slice none 0 0) 1 (.bool z2) (by omega) rfl
  clear hQ2 f2 c2
  generalize w3.setCell ⟨w.heap.size + 1 + 1, 1, none⟩ (.bool z2) = x3 at *
  refine hR3.rtext.mono ?_
  rintro e w4 ⟨rfl, hQ3⟩
  clear hR3
  generalize txt9 S3 = A at *
  obtain ⟨z3, S4⟩ := A
  dsimp only at hQ3 HC
  have f3 := hQ3.cells.1 2
  have c3 := hQ3.box.cells.2.2.1
  dsimp only at c3
  go_wp2_with fail
  have hR4 := hQ3.put (c' := ⟨z0, z2, z3, z1, []⟩) (u' := .slice none 0 0) 2 (.string z3) (by omega) rfl
  clear hQ3 f3 c3
  generalize w4.setCell ⟨w.heap.size + 1 + 1, 2, none⟩ (.string z3) = x4 at *
  rw [HC.out] at HR
  dsimp only [repOf9] at HR
  have hgb := getS_bd S4.1
  have HW : Hid (∀ j, j ≤ (getS S4.1).1.toNat → (rdN j (loseS S4.1 S4.2 (getS S4.1).2)).2.2 = true → pairsOk S4 = false) := fun j => pairs_wrong S4
  have HP : Hid (pairsS S4 = rdN (getS S4.1).1.toNat (loseS S4.1 S4.2 (getS S4.1).2)) := rfl
  have hnum := hR4.rnum
  obtain ⟨K, hK⟩ : ∃ K : Nat, (getS S4.1).1 = (K : Int) := ⟨(getS S4.1).1.toNat, by omega⟩
  have hKt : (getS S4.1).1.toNat = K := by omega
  rw [hKt] at HW HP
  rw [hK] at hnum hgb
  generalize loseS S4.1 S4.2 (getS S4.1).2 = T at *
  clear hK hKt
  refine hnum.mono ?_
  rintro e w5 ⟨rfl, hR5⟩
  clear hnum HC hR4
  have hlt5 := hR5.box.lt
  have hT5 := hR5.len
  go_wp2
  go_loopw [7] (fun s7 wr => ∃ (j : Nat) (a : Option Addr) (n k : Nat), j ≤ K ∧ s7 = .int .u64 (j : Nat) ∧ RdR w wr (rdN j T).2 ⟨z0, z2, z3, z1, []⟩ (.slice a n k) ∧ OwnsP wr w5.heap.size (.slice a n k) (rdN j T).1 ∧ w5.heap.size ≤ wr.heap.size) (fun s7 _ => K - (intOf s7).toNat)
  case atStart => exact ⟨0, none, 0, 0, Nat.zero_le _, rfl, hR5, OwnsP.nil0 _ _, Nat.le_refl _⟩
  case round =>
    clear hR5
    obtain ⟨j, a, n, k, hj, rfl, hR, ho, hws⟩ := hrel
    by_cases hgo : j < K ∧ (rdN j T).2.2 = false
    · obtain ⟨hlt, hwf⟩ := hgo
      have hlj := rdN_len j T
      have hls := rdN_less T j hwf
      have HN : Hid (rdN (j + 1) T = ((rdN j T).1 ++ [(pairS (rdN j T).2).1], (pairS (rdN j T).2).2)) := rfl
      have HPS : Hid (pairS (rdN j T).2 = (((txt9 (rdN j T).2).1, (txt9 (txt9 (rdN j T).2).2).1), (txt9 (txt9 (rdN j T).2).2).2)) := rfl
      generalize rdN j T = Q at *
      obtain ⟨l, Y0⟩ := Q
      dsimp only at *
      obtain ⟨v0, hv0⟩ := hR.rd
      have hc1 := hv0.c1
      rw [hwf] at hc1
      have hrl := hv0.lt
      have hbl := hR.box.lt
      clear hv0 hwf
      go_wp2_with fail
      refine hR.rtextG.mono ?_
      rintro e y1 ⟨rfl, hR1, hg1⟩
      have ho1 := ho.kept7 hg1 (by omega)
      clear hR ho hc1
      generalize txt9 Y0 = A at *
      obtain ⟨xk, Y1⟩ := A
      dsimp only at *
      have hba : Below y1.heap.size y1 (y1.alloc (.cells #[.string xk, .string ⟨#[]⟩] 67)) := (Below.refl _ _).alloc (Nat.le_refl _) _
      have hR2 := hR1.below hba
      have ho2 := ho1.below hba (Nat.le_refl _)
      have hbx2 := heap_alloc_new y1 (.cells #[.string xk, .string ⟨#[]⟩] 67)
      have hgk : ∀ g, (Value.slice a n k).ownBlock = some g → g < y1.heap.size := fun g hg => (World.ownsRow.lt ho1 g hg).2
      have hy1 : w5.heap.size ≤ y1.heap.size := Nat.le_trans hws hg1.size
      clear hR1 ho1 hba hg1
      go_wp2_with fail
      have hz2 : (y1.alloc (.cells #[.string xk, .string ⟨#[]⟩] 67)).heap.size = y1.heap.size + 1 := by simp
      generalize y1.alloc (.cells #[.string xk, .string ⟨#[]⟩] 67) = y2 at *
      generalize y1.heap.size = y at *
      refine hR2.rtextG.mono ?_
      rintro e y3 ⟨rfl, hR3, hg3⟩
      have ho3 := ho2.kept7 hg3 (by omega)
      have hbx3 := (hg3.block y (by omega) (by intro e; have := Option.some.inj e; omega)).trans hbx2
      have hy3 := hg3.size
      clear hR2 ho2 hbx2 hg3
      generalize txt9 Y1 = A at *
      obtain ⟨xv, Y2⟩ := A
      dsimp only at *
      have p1 : y3.cell? ⟨y, 1, none⟩ = some (.string ⟨#[]⟩) := by unfold World.cell?; dsimp only; rw [hbx3]; rfl
      have p2 := frozen9 hbx3 1
      have hbx4 := set_block9 hbx3 1 (.string xv) (by simp)
      have hR4 := hR3.keep (grown_set y3 y 1 (.string xv)) (by omega)
      have ho4 : OwnsP (y3.setCell ⟨y, 1, none⟩ (.string xv)) w5.heap.size (.slice a n k) l := by
        refine World.ownsRow.kept ho3 (grown_set y3 y 1 (.string xv)) ?_
        cases hv : (Value.slice a n k).ownBlock with
        | none => exact .inl rfl
        | some g =>
          have := hgk g hv
          exact .inr (fun e => by have := Option.some.inj e; omega)
      clear hR3 ho3 hbx3
      go_upto_region 13 with fail
      have hy4 : y < (y3.setCell ⟨y, 1, none⟩ (.string xv)).heap.size := by have := (Array.getElem?_eq_some_iff.1 hbx4).1; exact this
      generalize y3.setCell ⟨y, 1, none⟩ (.string xv) = y4 at *
      have q0 : y4.cell? ⟨y, 0, none⟩ = some (.string xk) := by unfold World.cell?; dsimp only; rw [hbx4]; rfl
      have q1 : y4.cell? ⟨y, 1, none⟩ = some (.string xv) := by unfold World.cell?; dsimp only; rw [hbx4]; rfl
      have q4 := hR4.box.cells.2.2.2.2
      have qf := hR4.cells.1 4
      clear hbx4 p1 p2
      have hoA := World.ownsRow.alloc ho4 (.cells #[.string xk, .string xv] 67)
      have hll : l.length ≤ 536870912 := by have := hR4.len; omega
      have hsz4 : w5.heap.size ≤ y4.heap.size := by omega
      have hlen6 : (l ++ [(xk, xv)]).length = j + 1 := by rw [List.length_append, List.length_singleton, hlj]
      go_wp2_with (at_builtin; refine wpList_append_own _ rfl _ _ 37 rfl w5.heap.size 67 i1 (.agg #[.string ⟨#[]⟩, .string ⟨#[]⟩]) 2 32 Try.underlying37 hi1 hz1 hs1 hb1 rfl (by decide) (.slice a n k) l.length (pairsV l) rfl hoA ⟨y4.heap.size, 0, none⟩ 1 1 [.string xk, .string xv] rfl rfl (new_two _ _ _ _) (by simp [Value.oneCell']) (by unfold maxLen; omega) (by omega) (by simp; omega) ?_; intro v5 y5 ho5 hg5 _; have hb5 : Below w5.heap.size y4 y5 := ((Below.refl w5.heap.size y4).alloc (by omega) _).grown hg5 (by simp; omega) fun k hk => (World.ownsRow.lt ho4 k hk).1; have hR5 := hR4.belowB hb5 hlt5; have q5 := hR5.box.cells.2.2.2.2; have qf5 := hR5.cells.1 4; have ho6 : OwnsP y5 w5.heap.size v5 (l ++ [(xk, xv)]) := (by unfold OwnsP; rw [List.length_append, List.length_singleton, pairsV_append]; exact ho5); obtain ⟨p5, n5, hv5, -, -, -⟩ := id ho6.has; rw [hlen6] at hv5; subst hv5; clear ho5)
      go_roundw
      case rel =>
        refine ⟨j + 1, p5, j + 1, n5, by omega, by go_num, ?_, ?_, ?_⟩
        · rw [HN.out, HPS.out]
          exact hR5.put (c' := ⟨z0, z2, z3, z1, []⟩) (u' := .slice p5 (j + 1) n5) 4 (.slice p5 (j + 1) n5) (by omega) rfl
        · rw [HN.out, HPS.out]
          exact ho6.kept7 (grown_set _ _ _ _) hlt5
        · exact Nat.le_trans hsz4 (Nat.le_trans hb5.size (grown_set _ _ _ _).size)
      case measure => simp only [intOf]; omega
    · have HD : Hid (pairsOk S4 = ((pairsS S4).2.1.isEmpty && !(pairsS S4).2.2)) := rfl
      have HW2 := HW.out j hj
      have hfin := hR.rfin
      obtain ⟨v0, hv0⟩ := hR.rd
      have hc1 := hv0.c1
      clear hv0
      have hcase : ((((rdN j T).2.1.isEmpty && !(rdN j T).2.2) = false ∧ readR9 xs = (zeroR9, 8)) ∨ (((rdN j T).2.1.isEmpty && !(rdN j T).2.2) = true ∧ readR9 xs = (⟨z0, z2, z3, z1, (pairsS S4).1⟩, 0) ∧ OwnsP wr w5.heap.size (.slice a n k) (pairsS S4).1)) := by
        have hwd : (rdN j T).2.2 = true ∨ (rdN j T).2.2 = false := by cases (rdN j T).2.2 <;> simp
        rcases hwd with hw | hw
        · left
          rw [HR.out, HW2 hw, hw]
          exact ⟨by simp, rfl⟩
        · obtain rfl : j = K := by
            have : ¬ j < K := fun h => hgo ⟨h, hw⟩
            omega
          rw [← HP.out] at ho ⊢
          rw [← HD.out]
          cases hp : pairsOk S4 with
          | false =>
            left
            rw [HR.out, hp]
            exact ⟨rfl, rfl⟩
          | true =>
            right
            rw [HR.out, hp]
            exact ⟨rfl, rfl, ho⟩
      have hex : ¬ j < K ∨ (j < K ∧ (rdN j T).2.2 = true) := by
        by_cases h1 : j < K
        · right
          refine ⟨h1, ?_⟩
          cases hw : (rdN j T).2.2 with
          | true => rfl
          | false => exact absurd ⟨h1, hw⟩ hgo
        · exact .inl h1
      clear HR HD HW HW2 HP hgo ho
      generalize ((rdN j T).2.1.isEmpty && !(rdN j T).2.2) = fi at *
      generalize (rdN j T).2.2 = wf at *
      rcases hex with hnl | ⟨hnl, hwt⟩
      all_goals
        (try subst hwt)
        rcases hcase with ⟨rfl, hr⟩ | ⟨rfl, hr, ho⟩
        · have HR2 : Hid (readR9 xs = (zeroR9, 8)) := hr
          clear hr
          go_wp2_with fail
          have f0 := hR.cells.2
          obtain ⟨r0, r1, r2, r3, r4⟩ := hR.res.cells
          dsimp only [zeroR9] at r0 r1 r2 r3 r4
          obtain ⟨c0, c1, c2, c3, c4⟩ := hR.box.cells
          dsimp only at c0 c1 c2 c3 c4
          refine same_mono hfin ?_
          go_wp2
          have hF := fillR9 hR.res hR.bel (Nat.le_refl _) 0 false em9 0 none 0 0 []
          refine bodyPost_ret (ret_cell9 rfl _ _ w.heap.size _ _ _ _ rfl hF.1 Try.underlying39 rfl (by kernel_rfl)) rfl ⟨none, 0, 0, ?_, ?_, hF.2⟩
          · rw [HR2.out]
            rfl
          · rw [HR2.out]
            exact HasP.nil0 _
        · have HR2 : Hid (readR9 xs = (⟨z0, z2, z3, z1, (pairsS S4).1⟩, 0)) := hr
          clear hr
          go_wp2_with fail
          have f0 := hR.cells.2
          obtain ⟨r0, r1, r2, r3, r4⟩ := hR.res.cells
          dsimp only [zeroR9] at r0 r1 r2 r3 r4
          obtain ⟨c0, c1, c2, c3, c4⟩ := hR.box.cells
          dsimp only at c0 c1 c2 c3 c4
          refine same_mono hfin ?_
          go_wp2
          have hF := fillR9 hR.res hR.bel (Nat.le_refl _) z0 z2 z3 z1 a n k (pairsS S4).1
          have hP := fillP9 (b := w.heap.size) ho (by omega) z0 z2 z3 z1 a n k
          refine bodyPost_ret (ret_cell9 rfl _ _ w.heap.size _ _ _ _ rfl hF.1 Try.underlying39 rfl (by kernel_rfl)) rfl ⟨a, n, k, ?_, ?_, hF.2⟩
          · rw [HR2.out]
            rfl
          · rw [HR2.out]
            exact hP.has
end Go.Proofs.Ytomhmoedicajoaa
