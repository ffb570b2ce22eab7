import Derived.Test.YtnbaoimjcaeeaaaGreatCmUTo
import Derived.Test.YtnbaoimjcaeeaaaGreatEo3To
/-
  Contracts: corbelref09.Read.
-/
namespace Go.Proofs.YtnbaoimjcaeeaaaGreat
open Go.RowKit

set_option maxRecDepth 100000 in
set_option maxHeartbeats 1500000 in
theorem rreadC_any (v : Value) (xs : List Int) (w : World) (hv : Has w v xs) (hB : IsB xs) (hl : xs.length ≤ 1099511627776) :
    Calls Tryz.prog 71 #[v] w fun e w' => e = .returned (.tuple #[.agg (readC9 xs).1.arr, .int .i64 (readC9 xs).2]) ∧ Below w.heap.size w w' := by
  have hR0 : RdC w _ (xs, false) zeroC9 := RdC.new (t := 72) hv hB hl
  have hmf : ∀ (fn : Fn) (first cap : Array Value) (w : World), (Instr.makeFunc fn first cap).run Tryz.prog w = .ok (.func fn first cap) w := fun _ _ _ _ => rfl
  have HC : Hid (rdC9 xs = (⟨(int9 (xs, false)).1, (int9 (int9 (xs, false)).2).1, (int9 (int9 (int9 (xs, false)).2).2).1, (txt9 (int9 (int9 (int9 (int9 (xs, false)).2).2).2).2).1, (txt9 (txt9 (int9 (int9 (int9 (int9 (xs, false)).2).2).2).2).2).1, (txt9 (txt9 (txt9 (int9 (int9 (int9 (int9 (xs, false)).2).2).2).2).2).2).1, (txt9 (txt9 (txt9 (txt9 (int9 (int9 (int9 (int9 (xs, false)).2).2).2).2).2).2).2).1, (int9 (int9 (int9 (int9 (xs, false)).2).2).2).1⟩, (txt9 (txt9 (txt9 (txt9 (int9 (int9 (int9 (int9 (xs, false)).2).2).2).2).2).2).2).2)) := rfl
  have HR : Hid (readC9 xs = if ((rdC9 xs).2.1.isEmpty && !(rdC9 xs).2.2) && good9 (rdC9 xs).1 then ((rdC9 xs).1, 0) else (zeroC9, 8)) := rfl
  obtain ⟨pb, cb, hvb, -, -, -⟩ := id hv
  generalize hnb : xs.length = nb at hvb
  subst hvb
  clear hnb hv
  generalize ((xs, false) : List Int × Bool) = S0 at *
  unfold zeroC9 Cmd9.arr at hR0
  dsimp only at hR0
  go_enter Tryz.func71, Tryz.ntmps71
  go_wp2_with fail
  refine hR0.rint.mono ?_
  rintro e w1 ⟨rfl, hQ0⟩
  clear hR0
  generalize int9 S0 = A at *
  obtain ⟨z0, S1⟩ := A
  dsimp only at hQ0 HC
  have f0 := hQ0.cells.1 0
  have c0 := hQ0.box.cells.1
  dsimp only at c0
  go_wp2_with fail
  have hR1 := hQ0.put (c' := ⟨z0, 0, 0, em9, em9, em9, em9, 0⟩) 0 (.int .i64 z0) (by omega) rfl
  clear hQ0 f0 c0
  generalize w1.setCell ⟨w.heap.size + 1 + 1, 0, none⟩ (.int .i64 z0) = x1 at *
  refine hR1.rint.mono ?_
  rintro e w2 ⟨rfl, hQ1⟩
  clear hR1
  generalize int9 S1 = A at *
  obtain ⟨z1, S2⟩ := A
  dsimp only at hQ1 HC
  have f1 := hQ1.cells.1 1
  have c1 := hQ1.box.cells.2.1
  dsimp only at c1
  go_wp2_with fail
  have hR2 := hQ1.put (c' := ⟨z0, z1, 0, em9, em9, em9, em9, 0⟩) 1 (.int .i64 z1) (by omega) rfl
  clear hQ1 f1 c1
  generalize w2.setCell ⟨w.heap.size + 1 + 1, 1, none⟩ (.int .i64 z1) = x2 at *
  refine hR2.rint.mono ?_
  rintro e w3 ⟨rfl, hQ2⟩
  clear hR2
  generalize int9 S2 = A at *
  obtain ⟨z2, S3⟩ := A
  dsimp only at hQ2 HC
  have f2 := hQ2.cells.1 2
  have c2 := hQ2.box.cells.2.2.1
  dsimp only at c2
  go_wp2_with fail
  have hR3 := hQ2.put (c' := ⟨z0, z1, z2, em9, em9, em9, em9, 0⟩) 2 (.int .i64 z2) (by omega) rfl
  clear hQ2 f2 c2
  generalize w3.setCell ⟨w.heap.size + 1 + 1, 2, none⟩ (.int .i64 z2) = x3 at *
  refine hR3.rint.mono ?_
  rintro e w4 ⟨rfl, hQ3⟩
  clear hR3
  generalize int9 S3 = A at *
  obtain ⟨z3, S4⟩ := A
  dsimp only at hQ3 HC
  have f3 := hQ3.cells.1 7
  have c3 := hQ3.box.cells.2.2.2.2.2.2.2
  dsimp only at c3
  go_wp2_with fail
  have hR4 := hQ3.put (c' := ⟨z0, z1, z2, em9, em9, em9, em9, z3⟩) 7 (.int .i64 z3) (by omega) rfl
  clear hQ3 f3 c3
  generalize w4.setCell ⟨w.heap.size + 1 + 1, 7, none⟩ (.int .i64 z3) = x4 at *
  refine hR4.rtext.mono ?_
  rintro e w5 ⟨rfl, hQ4⟩
  clear hR4
  generalize txt9 S4 = A at *
  obtain ⟨z4, S5⟩ := A
  dsimp only at hQ4 HC
  have f4 := hQ4.cells.1 3
  have c4 := hQ4.box.cells.2.2.2.1
  dsimp only at c4
  go_wp2_with fail
  have hR5 := hQ4.put (c' := ⟨z0, z1, z2, z4, em9, em9, em9, z3⟩) 3 (.string z4) (by omega) rfl
  clear hQ4 f4 c4
  generalize w5.setCell ⟨w.heap.size + 1 + 1, 3, none⟩ (.string z4) = x5 at *
  refine hR5.rtext.mono ?_
  rintro e w6 ⟨rfl, hQ5⟩
  clear hR5
  generalize txt9 S5 = A at *
  obtain ⟨z5, S6⟩ := A
  dsimp only at hQ5 HC
  have f5 := hQ5.cells.1 4
  have c5 := hQ5.box.cells.2.2.2.2.1
  dsimp only at c5
  go_wp2_with fail
  have hR6 := hQ5.put (c' := ⟨z0, z1, z2, z4, z5, em9, em9, z3⟩) 4 (.string z5) (by omega) rfl
  clear hQ5 f5 c5
  generalize w6.setCell ⟨w.heap.size + 1 + 1, 4, none⟩ (.string z5) = x6 at *
  refine hR6.rtext.mono ?_
  rintro e w7 ⟨rfl, hQ6⟩
  clear hR6
  generalize txt9 S6 = A at *
  obtain ⟨z6, S7⟩ := A
  dsimp only at hQ6 HC
  have f6 := hQ6.cells.1 5
  have c6 := hQ6.box.cells.2.2.2.2.2.1
  dsimp only at c6
  go_wp2_with fail
  have hR7 := hQ6.put (c' := ⟨z0, z1, z2, z4, z5, z6, em9, z3⟩) 5 (.string z6) (by omega) rfl
  clear hQ6 f6 c6
  generalize w7.setCell ⟨w.heap.size + 1 + 1, 5, none⟩ (.string z6) = x7 at *
  refine hR7.rtext.mono ?_
  rintro e w8 ⟨rfl, hQ7⟩
  clear hR7
  generalize txt9 S7 = A at *
  obtain ⟨z7, S8⟩ := A
  dsimp only at hQ7 HC
  have f7 := hQ7.cells.1 6
  have c7 := hQ7.box.cells.2.2.2.2.2.2.1
  dsimp only at c7
  go_wp2_with fail
  have hR8 := hQ7.put (c' := ⟨z0, z1, z2, z4, z5, z6, z7, z3⟩) 6 (.string z7) (by omega) rfl
  clear hQ7 f7 c7
  generalize w8.setCell ⟨w.heap.size + 1 + 1, 6, none⟩ (.string z7) = x8 at *
  have hfin := hR8.rfin
  rw [HC.out] at HR
  dsimp only at HR
  have hgd := rgood_any ⟨z0, z1, z2, z4, z5, z6, z7, z3⟩ x8
  obtain ⟨c0, c1, c2, c3, c4, c5, c6, c7⟩ := hR8.box.cells
  dsimp only at c0 c1 c2 c3 c4 c5 c6 c7
  generalize (S8.1.isEmpty && !S8.2) = fi at *
  cases fi with
  | false =>
    have HR2 : Hid (readC9 xs = (zeroC9, 8)) := by rw [Hid, HR.out]; rfl
    have f0 := hR8.cells.2
    obtain ⟨r0, r1, r2, r3, r4, r5, r6, r7⟩ := hR8.res.cells
    dsimp only [zeroC9] at r0 r1 r2 r3 r4 r5 r6 r7
    clear HR hgd
    refine same_mono hfin ?_
    go_wp2
    have hF := fill9 hR8.res hR8.bel (Nat.le_refl _) 0 0 0 em9 em9 em9 em9 0
    refine bodyPost_ret (ret_cell9 rfl _ _ w.heap.size _ _ _ _ rfl hF.1 Tryz.underlying25 rfl (by kernel_rfl)) rfl ⟨?_, hF.2⟩
    rw [HR2.out]
    rfl
  | true =>
    refine same_mono hfin ?_
    clear hfin
    go_wp2_with fail
    refine hgd.mono ?_
    rintro e y9 ⟨rfl, hb9⟩
    have hRb := hR8.below hb9
    have f0 := hRb.cells.2
    obtain ⟨r0, r1, r2, r3, r4, r5, r6, r7⟩ := hRb.res.cells
    dsimp only [zeroC9] at r0 r1 r2 r3 r4 r5 r6 r7
    obtain ⟨d0, d1, d2, d3, d4, d5, d6, d7⟩ := hRb.box.cells
    dsimp only at d0 d1 d2 d3 d4 d5 d6 d7
    clear hgd hR8 c0 c1 c2 c3 c4 c5 c6 c7
    generalize good9 _ = g at *
    cases g with
    | false =>
      have HR2 : Hid (readC9 xs = (zeroC9, 8)) := by rw [Hid, HR.out]; rfl
      clear HR
      go_wp2
      have hF := fill9 hRb.res hRb.bel (Nat.le_refl _) 0 0 0 em9 em9 em9 em9 0
      refine bodyPost_ret (ret_cell9 rfl _ _ w.heap.size _ _ _ _ rfl hF.1 Tryz.underlying25 rfl (by kernel_rfl)) rfl ⟨?_, hF.2⟩
      rw [HR2.out]
      rfl
    | true =>
      have HR2 : Hid (readC9 xs = (⟨z0, z1, z2, z4, z5, z6, z7, z3⟩, 0)) := by rw [Hid, HR.out]; rfl
      clear HR
      go_wp2
      have hF := fill9 hRb.res hRb.bel (Nat.le_refl _) z0 z1 z2 z4 z5 z6 z7 z3
      refine bodyPost_ret (ret_cell9 rfl _ _ w.heap.size _ _ _ _ rfl hF.1 Tryz.underlying25 rfl (by kernel_rfl)) rfl ⟨?_, hF.2⟩
      rw [HR2.out]
      rfl
end Go.Proofs.YtnbaoimjcaeeaaaGreat

/-
  The document's reader of stage 10; contracts: corbelref10.readList, readConf.
-/
namespace Go.Proofs.YtnbaoimjcaeeaaaGreat
open Go.RowKit Go.Shelf

theorem Rdr.rint {w0 w : World} {rb : Nat} {S : St} (h : Rdr w0 w rb S) :
    Calls Tryz.prog 35 #[.pointer (some ⟨rb, 0, none⟩)] w fun e w' => e = .returned (.int .i64 (int9 S).1) ∧ Left10 w0 w rb (int9 S).2 w' := by
  obtain ⟨v, hv⟩ := h.rd
  refine (rint_any w _ _ v _ _ hv h.inv h.isb (Nat.le_trans h.len (by decide))).mono ?_
  rintro e w' ⟨rfl, hr, hg⟩
  exact ⟨rfl, h.grow hr hg (h.inv.lose _) (loseS_isB h.isb _ _) (loseS_length _ _ _), hg⟩

theorem Rdr.rtext {w0 w : World} {rb : Nat} {S : St} (h : Rdr w0 w rb S) :
    Calls Tryz.prog 72 #[.pointer (some ⟨rb, 0, none⟩)] w fun e w' => e = .returned (.string (strOfNums (byt10 S).1)) ∧ Left10 w0 w rb (byt10 S).2 w' := by
  obtain ⟨v, hv⟩ := h.rd
  refine (rtext_any w _ _ v _ _ hv h.inv h.isb (Nat.le_trans h.len (by decide))).mono ?_
  rintro e w' ⟨rfl, hr, hg⟩
  exact ⟨rfl, h.grow hr hg (h.inv.lose _) (loseS_isB h.isb _ _) (loseS_length _ _ _), hg⟩

theorem Rdr.rbool {w0 w : World} {rb : Nat} {S : St} (h : Rdr w0 w rb S) :
    Calls Tryz.prog 46 #[.pointer (some ⟨rb, 0, none⟩)] w fun e w' => e = .returned (.bool (bool9 S).1) ∧ Left10 w0 w rb (bool9 S).2 w' := by
  obtain ⟨v, hv⟩ := h.rd
  refine (rbool_any w _ _ v _ _ hv h.inv h.isb (Nat.le_trans h.len (by decide))).mono ?_
  rintro e w' ⟨rfl, hr, hg⟩
  exact ⟨rfl, h.grow hr hg (h.inv.lose _) (loseS_isB h.isb _ _) (loseS_length _ _ _), hg⟩

theorem Rdr.rcount {w0 w : World} {rb : Nat} {S : St} (h : Rdr w0 w rb S) (m : Int) (hm : m ≤ 9223372036854775807) :
    Calls Tryz.prog 47 #[.pointer (some ⟨rb, 0, none⟩), .int .i64 m] w fun e w' => e = .returned (.int .i64 (countS m S.1).1) ∧ Left10 w0 w rb (cnt10 m S).2 w' := by
  obtain ⟨v, hv⟩ := h.rd
  refine (rcount_cod m w _ _ v _ _ hv h.inv h.isb (Nat.le_trans h.len (by decide)) hm).mono ?_
  rintro e w' ⟨rfl, hr, hg⟩
  exact ⟨rfl, h.grow hr hg (h.inv.lose _) (loseS_isB h.isb _ _) (loseS_length _ _ _), hg⟩

theorem Rdr.rfin {w0 w : World} {rb : Nat} {S : St} (h : Rdr w0 w rb S) :
    Calls Tryz.prog 30 #[.pointer (some ⟨rb, 0, none⟩)] w fun e w' => e = .returned (.bool (S.1.isEmpty && !S.2)) ∧ w' = w := by
  obtain ⟨v, hv⟩ := h.rd
  exact rend_any w _ _ v _ _ hv

theorem Tell10.stays {α : Type} {f : St → α × St} {s T : St} {x : α} (h : Tell10 (f s) x T) (hs : Stays f) (hw : s.2 = true) : T.2 = true := by
  rcases h with h | ⟨h, -⟩
  · have := hs s hw
    rw [h] at this
    exact this
  · exact h
theorem ints10_wrong (T : St) {j n : Nat} (h : j ≤ n) (hw : (ints10 j T).2.2 = true) : (ints10 n T).2.2 = true := by
  induction h with
  | refl => exact hw
  | step _ ih => exact stays_int _ ih


set_option maxRecDepth 100000 in
set_option maxHeartbeats 3000000 in
theorem rlistR_any (w0 w : World) (rb : Nat) (S : St) (h : Rdr w0 w rb S) :
    Calls Tryz.prog 106 #[.pointer (some ⟨rb, 0, none⟩)] w fun e w' => ∃ (p : Option Addr) (n c : Nat) (l : List Int) (S' : St), e = .returned (.slice p n c) ∧ OwnsI w' w.heap.size (.slice p n c) l ∧ inL l ∧ l.length ≤ 1000000 ∧ Tell10 (list10 1000000 S) l S' ∧ Left10 w0 w rb S' w' := by
  obtain ⟨hn1, hn2⟩ := cnt_of 1000000 (by decide) S
  have kc := h.rcount 1000000 (by decide)
  rw [hn1] at kc
  have HL : Hid (list10 1000000 S = ints10 (cnt10 1000000 S).1 (cnt10 1000000 S).2) := rfl
  have hrl := h.lt
  generalize hN : (cnt10 1000000 S).1 = N at *
  generalize (cnt10 1000000 S).2 = T at *
  generalize list10 1000000 S = R at *
  clear hN hn1 h
  go_enter Tryz.func106, Tryz.ntmps106
  go_wp2_with fail
  refine kc.mono ?_
  rintro e w1 ⟨rfl, hR1, hg1⟩
  clear kc
  go_wp2
  go_loopw [4, 5] (fun s4 s5 wr => ∃ (j : Nat) (u : Value), u = s4 ∧ j ≤ N ∧ s5 = .int .i64 (j : Nat) ∧ OwnsI wr w.heap.size u (ints10 j T).1 ∧ Rdr w0 wr rb (ints10 j T).2 ∧ w.grownBy wr (some rb)) (fun _ s5 _ => N - (intOf s5).toNat)
  case atStart => exact ⟨0, _, rfl, Nat.zero_le _, rfl, OwnsI.nil _ _, hR1, hg1⟩
  case round =>
    clear hR1 hg1
    obtain ⟨j, u, hu, hj, rfl, ho, hR, hg⟩ := hrel
    subst hu
    have hll := ints10_len T j
    have HIn : Hid (inL (ints10 j T).1) := ints10_in T j
    have HWr : Hid ((ints10 j T).2.2 = true → R.2.2 = true) := fun h => by rw [HL.out]; exact ints10_wrong T hj h
    have HEq : Hid (j = N → R = ints10 j T) := fun h => by rw [HL.out, h]
    have HS : Hid (ints10 (j + 1) T = ((ints10 j T).1 ++ [(int9 (ints10 j T).2).1], (int9 (ints10 j T).2).2)) := rfl
    generalize ints10 j T = Q at *
    obtain ⟨l, st⟩ := Q
    dsimp only at ho hR HS hll HIn HWr HEq
    have ki := hR.rint
    obtain ⟨v0, hv0⟩ := id hR.rd
    have c1 := hv0.c1
    have hlr := hv0.lt
    by_cases hlt : j < N
    · cases hw : st.2 with
      | true =>
        rw [hw] at c1
        obtain ⟨p9, c9, hv9, -, -, -⟩ := id ho.has
        generalize hl9 : l.length = n9 at hv9
        have hl9' : l.length ≤ 1000000 := by omega
        clear hl9 ki hv0
        subst hv9
        go_wp2
        go_ret
        exact ⟨_, _, _, l, st, rfl, ho, HIn.out, hl9', .inr ⟨hw, HWr.out hw⟩, hR, hg⟩
      | false =>
        rw [hw] at c1
        have HW : Hid (st.2 = false) := hw
        generalize int9 st = A at *
        obtain ⟨z, st2⟩ := A
        dsimp only at HS ki
        have hrr := hR.lt.2
        clear hR hv0 hw
        go_wp2_with fail
        refine ki.mono ?_
        rintro e w2 ⟨rfl, hR2, hg2⟩
        have ho2 := ho.kept10 hg2 (by omega)
        have hG2 := grown_trans hg hg2
        have hsz := hG2.size
        clear ki ho hg hg2 c1 hlr
        go_wp2_with (at_builtin; refine ap_int10 _ rfl _ _ rfl w.heap.size _ _ _ rfl rfl (by exact ho2) (by omega) (by exact hsz) ?_; intro v3 w3 ho3 hb3)
        go_roundw
        case rel =>
          refine ⟨j + 1, _, rfl, by omega, by go_num, by rw [HS.out]; exact ho3, ?_, ?_⟩
          · rw [HS.out]
            obtain ⟨v', hv'⟩ := hR2.rd
            exact ⟨⟨v', hv'.below hb3 hrl.2⟩, hR2.bel.trans (hb3.mono (by have := hR2.bel.size; omega)), hR2.inv, hR2.isb, hR2.len⟩
          · exact ⟨hb3.os.trans hG2.os, hb3.tape.trans hG2.tape, hb3.output.trans hG2.output, Nat.le_trans hG2.size hb3.size, fun k hk hr => (hb3.block k hk).trans (hG2.block k hk hr)⟩
        case measure => simp only [intOf]; omega
    · obtain ⟨p9, c9, hv9, -, -, -⟩ := id ho.has
      generalize hl9 : l.length = n9 at hv9
      have hl9' : l.length ≤ 1000000 := by omega
      clear hl9 ki hv0 c1 hlr
      subst hv9
      go_wp2
      go_ret
      exact ⟨_, _, _, l, st, rfl, ho, HIn.out, hl9', .inl (HEq.out (by omega)), hR, hg⟩

set_option maxRecDepth 100000 in
set_option maxHeartbeats 3000000 in
theorem rconfR_any (w0 w : World) (rb : Nat) (S : St) (h : Rdr w0 w rb S) :
    Calls Tryz.prog 73 #[.pointer (some ⟨rb, 0, none⟩)] w fun e w' => ∃ (X : ConfV) (S' : St), e = .returned (.agg X.arr) ∧ OwnsF w' w.heap.size X ∧ Tell10 (conf10 1000000 S) X.f S' ∧ Left10 w0 w rb S' w' := by
  have h0 : RdX w0 w _ rb S 28 #[.slice none 0 0, .slice none 0 0] #[.slice none 0 0, .slice none 0 0] := RdX.new h 28 #[.slice none 0 0, .slice none 0 0]
  have HC : Hid (∀ (l1 l2 : List Int) (S1 S2 : St), Tell10 (list10 1000000 S) l1 S1 → Tell10 (list10 1000000 S1) l2 S2 → Tell10 (conf10 1000000 S) ⟨l1, l2⟩ S2) := fun l1 l2 S1 S2 t1 t2 => by
    rw [conf10_bind]
    refine Tell10.bind t1 (Tell10.bind t2 (.inl rfl) (fun _ => Stays.ret _) id) (fun _ => (stays_list _).bind fun _ => Stays.ret _) fun hw => t2.stays (stays_list _) hw
  have hrl := h.lt
  have hz1 : w.heap.size + 1 < ((w.alloc (.cells #[.slice none 0 0, .slice none 0 0] 28)).alloc (.cells #[.slice none 0 0, .slice none 0 0] 28)).heap.size := by simp
  have k1 := rlistR_any w0 _ rb S h0.r
  clear h
  go_enter Tryz.func73, Tryz.ntmps73
  go_wp2_with fail
  generalize (w.alloc (.cells #[.slice none 0 0, .slice none 0 0] 28)).alloc (.cells #[.slice none 0 0, .slice none 0 0] 28) = W0 at *
  refine k1.mono ?_
  rintro _ w2 ⟨p, n, c, l1, S1, rfl, ho2, hI1, hL1, hT1, hl2⟩
  have h1 := h0.left hl2
  have H1 : Hid (inL l1 ∧ l1.length ≤ 1000000) := ⟨hI1, hL1⟩
  have HT1 : Hid (Tell10 (list10 1000000 S) l1 S1) := hT1
  clear k1 h0 hl2 hI1 hL1 hT1
  have c0 := box_cell h1.box 0
  have fb := frozen9 h1.box
  have hlb := box_lt h1.box
  go_upto_region 3 with fail
  have h2 : RdX w0 w _ rb S1 28 #[.slice p n c, .slice none 0 0] #[.slice none 0 0, .slice none 0 0] := h1.put 0 (.slice p n c) (by show 0 < 2; omega)
  have ho3 := ho2.kept10 (grown_set w2 (w.heap.size + 1) 0 (.slice p n c)) (by omega)
  clear h1 c0 fb hlb ho2
  generalize w2.setCell ⟨w.heap.size + 1, 0, none⟩ (.slice p n c) = W2 at *
  have k2 := rlistR_any w0 _ rb S1 h2.r
  have hlb2 := box_lt h2.box
  go_wp2_with fail
  refine k2.mono ?_
  rintro _ w3 ⟨q, m, d, l2, S2, rfl, ho4, hI2, hL2, hT2, hl3⟩
  have h3 := h2.left hl3
  have ho3' := ho3.kept10 hl3.2 (by omega)
  have H2 : Hid (inL l2 ∧ l2.length ≤ 1000000) := ⟨hI2, hL2⟩
  have HT : Hid (Tell10 (conf10 1000000 S) ⟨l1, l2⟩ S2) := HC.out l1 l2 S1 S2 HT1.out hT2
  have hws := hl3.2.size
  clear k2 h2 hl3 hI2 hL2 hT2 HC HT1 ho3
  have c1 := box_cell h3.box 1
  have fb := frozen9 h3.box
  have hlb := box_lt h3.box
  go_upto_region 4 with fail
  have h4 : RdX w0 w _ rb S2 28 #[.slice p n c, .slice q m d] #[.slice none 0 0, .slice none 0 0] := h3.put 1 (.slice q m d) (by show 1 < 2; omega)
  have hO : OwnsF _ (w.heap.size + 1 + 1) ⟨⟨p, n, c⟩, ⟨q, m, d⟩, ⟨l1, l2⟩⟩ := ⟨(ho3'.kept10 (grown_set w3 (w.heap.size + 1) 1 (.slice q m d)) (by omega)).mono (by omega), (ho4.kept10 (grown_set w3 (w.heap.size + 1) 1 (.slice q m d)) (by omega)).mono (by omega), H1.out.1, H2.out.1, H1.out.2, H2.out.2⟩
  clear h3 c1 fb hlb ho3' ho4
  generalize w3.setCell ⟨w.heap.size + 1, 1, none⟩ (.slice q m d) = W4 at *
  have c0 := box_cell h4.box 0
  have c1 := box_cell h4.box 1
  have d0 := box_cell h4.res 0
  have d1 := box_cell h4.res 1
  have fb := frozen9 h4.res
  have hlb := box_lt h4.box
  have hlr := box_lt h4.res
  go_wp2
  have hF := fillF (b := w.heap.size) (x0 := noFV) h4.res p n c q m d ⟨l1, l2⟩
  have hR9 := ((((h4.r).cell (b := w.heap.size) (by omega) (by omega) 0 (.slice p n c))).cell (b := w.heap.size) (by omega) (by omega) 1 (.slice q m d))
  have hG9 := (grown_new (b := w.heap.size) (grown_new (b := w.heap.size) h4.g (by omega) 0 (.slice p n c)) (by omega) 1 (.slice q m d))
  have hO9 := ((((hO).cell (b := w.heap.size) (by omega) 0 (.slice p n c))).cell (b := w.heap.size) (by omega) 1 (.slice q m d))
  exact bodyPost_ret (ret_one rfl _ _ w.heap.size _ _ _ _ rfl hF Tryz.underlying28 rfl (by kernel_rfl)) rfl ⟨⟨⟨p, n, c⟩, ⟨q, m, d⟩, ⟨l1, l2⟩⟩, S2, rfl, hO9.mono (by omega), HT.out, hR9, hG9⟩
end Go.Proofs.YtnbaoimjcaeeaaaGreat
