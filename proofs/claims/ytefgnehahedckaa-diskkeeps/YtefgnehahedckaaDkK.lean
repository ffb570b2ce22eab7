/-
  Contract: settle with the closure of Sync: all writes become sure.
-/
import Derived.Test.YtefgnehahedckaaDkJ
namespace Go.Proofs.Ytefgnehahedckaa
open Go.RowKit Go.Maps

section
variable {w w' : World} {d : Nat} {S : Nat → Prop} {φ : ByteArray → Nat} {σ : ByteArray → Value} {mb : Nat} {vb : Value} {R : RD}
set_option maxRecDepth 10000 in
set_option maxHeartbeats 4000000 in
theorem settle_s (h : Lies8 w d S φ σ mb vb R) (hS : ∀ k, w.heap.size ≤ k → S k) (n : Nat) (hn : totW R.wr ≤ n) (hwl : (R.wr.length : Int) ≤ 9223372036854775807)
    (hmax : ∀ x ∈ R.names, R.su x + totW R.wr ≤ 1099511627776) (hnd : R.names.Nodup) (hF : ∀ x ∈ R.names, sureL n R.wr R.su x ≤ (R.bt x).length) (hbt : ∀ x ∈ R.names, (R.bt x).length ≤ 1073741824)
    (hu : R.used = (sumN (fun x => need (R.bt x).length) R.names : Nat)) (hub : R.used ≤ 16777216) :
    Calls Try.prog 55 #[.pointer (some ⟨d, 0, none⟩), .func (.func 56) #[] #[]] w fun e w' => (∃ v, e = .returned v) ∧ (∃ σ', Lies8 w' d S φ σ' mb (.slice none 0 0) (R.settled n)) ∧ Turn S w w' := by
  obtain ⟨-, c1, -⟩ := h.cells
  obtain ⟨pb, cb, rfl⟩ := writes_shape h.buf
  obtain ⟨F, HF⟩ : ∃ F, Hid (sureL n R.wr R.su = F) := ⟨_, rfl⟩
  rw [HF.out] at hF
  obtain ⟨N, HN⟩ : ∃ N, Hid (R.wr.length = N) := ⟨_, rfl⟩
  have hwl' := hwl
  rw [HN.out] at hwl'
  have h0 := h
  rw [HN.out] at h0 c1
  go_enter Try.func55, Try.ntmps55
  go_wp2
  go_loopw [13] (fun i wr => ∃ (j m : Nat) (su : ByteArray → Nat), j ≤ N ∧ i = .int .i64 (j : Nat) ∧ Lies8 wr d S φ σ mb (.slice pb N cb) { R with su := su } ∧ Hid (totW (R.wr.drop j) ≤ m) ∧ Hid (sureL m (R.wr.drop j) su = F) ∧ Hid (∀ x ∈ R.names, su x + totW (R.wr.drop j) ≤ 1099511627776) ∧ Turn S w wr) (fun i _ => N - (intOf i).toNat)
  case atStart => exact ⟨0, n, R.su, Nat.zero_le _, rfl, h0, hn, HF.out, hmax, Turn.refl _ _⟩
  case round =>
    clear h0 h c1 hn
    obtain ⟨j, m, su, hj, rfl, hL, HM, HS, HB, ht⟩ := hrel
    by_cases hlt : j < N
    · have hjl : j < R.wr.length := by rw [HN.out]; exact hlt
      obtain ⟨g, cap, e, hcap, d1, d2⟩ := hL.write (j := j) hjl
      simp only [Value.slice.injEq] at e
      obtain ⟨rfl, -, rfl⟩ := e
      dsimp only at d1 d2 hcap
      rw [HN.out] at hcap
      have hmem : (R.wr.getD j default).1 ∈ R.names := hL.mem _ (getD_memW hjl)
      have Hd : Hid (R.wr.drop j = R.wr.getD j default :: R.wr.drop (j + 1)) := drop_cons hjl
      obtain ⟨x, Hx⟩ : ∃ x, Hid (R.wr.getD j default = x) := ⟨_, rfl⟩
      rw [Hx.out] at d1 d2 hmem Hd
      obtain ⟨xf, xs⟩ := x
      dsimp only at d1 d2 hmem
      have hb1 := HB.out xf hmem
      rw [Hd.out, totW] at hb1
      dsimp only at hb1
      have hA := heap_alloc_new wr (.cells #[.pointer (some ⟨φ xf, 0, none⟩), .int .i64 (xs : Nat)] 82)
      have hba : Below wr.heap.size wr (wr.alloc (.cells #[.pointer (some ⟨φ xf, 0, none⟩), .int .i64 (xs : Nat)] 82)) := (Below.refl _ _).alloc (Nat.le_refl _) _
      have hza : (wr.alloc (.cells #[.pointer (some ⟨φ xf, 0, none⟩), .int .i64 (xs : Nat)] 82)).heap.size = wr.heap.size + 1 := by simp
      have hxm : xs ≤ m ∧ totW (R.wr.drop (j + 1)) ≤ m - xs := by
        have := HM.out
        rw [Hd.out, totW] at this
        dsimp only at this
        omega
      have hL1 := hL.below hba
      have t1 : Turn S w (wr.alloc (.cells #[.pointer (some ⟨φ xf, 0, none⟩), .int .i64 (xs : Nat)] 82)) := ht.alloc _
      go_wp2_with fail
      generalize wr.alloc (.cells #[.pointer (some ⟨φ xf, 0, none⟩), .int .i64 (xs : Nat)] 82) = wa at *
      have hws := ht.size
      generalize wr.heap.size = ab at *
      obtain ⟨k0, k1, kf⟩ := hL1.fcells hmem
      dsimp only at k1
      have b0 := cell_of hA (i := 0) (v := .pointer (some ⟨φ xf, 0, none⟩)) rfl
      have b1 := cell_of hA (i := 1) (v := .int .i64 (xs : Nat)) rfl
      clear hL ht hba d1 d2
      have hfl : φ xf < wa.heap.size := hL1.ltF hmem
      have habl : ab < wa.heap.size := by omega
      have hFile := hL1.file xf hmem
      have hcr := (sync1_any (φ xf) xs wa.drew).mono (R' := fun e w2 => e = .returned (.int .i64 (xs : Nat)) ∧ Below wa.drew.heap.size wa.drew w2 ∧ w2.cell? ⟨φ xf, 1, none⟩ = some (.int .i64 (su xf : Nat)) ∧ w2.cell? ⟨ab, 0, none⟩ = some (.pointer (some ⟨φ xf, 0, none⟩)) ∧ w2.frozen? ⟨φ xf, 1, none⟩ = false)
        fun e w2 ⟨he, t2⟩ => ⟨he, t2, (t2.cell (p := ⟨φ xf, 1, none⟩) hfl).trans k1, (t2.cell (p := ⟨ab, 0, none⟩) habl).trans b0, froz_of (i := 1) ((t2.block (φ xf) hfl).trans hFile)⟩
      go_region_with (go_at_call 56; refine hcr.mono ?_; rintro e w2 ⟨rfl, t2, k1', b0', kf'⟩)
      all_goals
        clear hcr
        have hL2 := (hL1.drewN 1).same (w' := w2) fun k hk _ => t2.block k hk
        have hL3 := hL2.setS hmem (su xf + xs)
        have t3 : Turn S w (w2.setCell ⟨φ xf, 1, none⟩ (.int .i64 (su xf + xs : Nat))) := ((t1.drew).trans (Turn.of_below t2 (Nat.le_refl _))).setCell (p := ⟨φ xf, 1, none⟩) (.inl (hL1.sF xf hmem)) _
        have HS2 : Hid (sureL (m - xs) (R.wr.drop (j + 1)) (upd su xf (su xf + xs)) = F) := by
          have := HS.out
          rw [Hd.out, sureL] at this
          dsimp only at this
          rw [Nat.min_eq_left hxm.1] at this
          exact this
        have HB2 : Hid (∀ x ∈ R.names, upd su xf (su xf + xs) x + totW (R.wr.drop (j + 1)) ≤ 1099511627776) := by
          intro x hx
          by_cases hxf : x = xf
          · subst hxf; rw [upd_at]; omega
          · have := HB.out x hx
            rw [Hd.out, totW] at this
            dsimp only at this
            rw [upd_ne hxf]
            omega
        rw [Int.natCast_add] at hL3 t3
        go_wp2
        go_roundw
        case rel => exact ⟨j + 1, m - xs, upd su xf (su xf + xs), by omega, by go_num, hL3, hxm.2, HS2, HB2, t3⟩
        case measure => simp only [intOf]; omega
    · have hjn : j = N := by omega
      subst hjn
      have hsF : su = F := by
        have := HS.out
        rw [← HN.out, List.drop_length] at this
        exact this
      subst hsF
      clear HS HB hj hlt HM
      have hok := fun (j : Nat) (x : ByteArray) (hx : x ∈ R.names) => cuts_ok (R := { R with su := su }) hnd hL.mem hF hbt hu hub j hx
      have hmemR := hL.mem
      obtain ⟨-, c1, -⟩ := hL.cells
      obtain ⟨R1, HR1⟩ : ∃ R1 : RD, Hid ({ R with su := su } = R1) := ⟨_, rfl⟩
      have Hw1 : Hid (R1.wr = R.wr ∧ R1.names = R.names) := by rw [← HR1.out]; exact ⟨rfl, rfl⟩
      rw [HR1.out] at hok hL
      go_wp2
      go_loopw [34] (fun i wr2 => ∃ (k : Nat) (σ2 : ByteArray → Value), k ≤ j ∧ i = .int .i64 (k : Nat) ∧ Lies8 wr2 d S φ σ2 mb (.slice pb j cb) (cuts R1 (R1.wr.take k)) ∧ Turn S w wr2) (fun i _ => j - (intOf i).toNat)
      case atStart => exact ⟨0, σ, Nat.zero_le _, rfl, by rw [List.take_zero]; exact hL, ht⟩
      case round =>
        clear hL ht c1
        obtain ⟨k, σ2, hk, rfl, hL, ht⟩ := hrel
        by_cases hlt : k < j
        · have hkeep := cuts_keeps (R1.wr.take k) R1
          have hkl : k < R.wr.length := by rw [HN.out]; exact hlt
          have hwrk : (cuts R1 (R1.wr.take k)).wr = R.wr := hkeep.2.2.1.trans Hw1.out.1
          obtain ⟨g, cap, e, hcap, d1, d2⟩ := hL.write (j := k) (by rw [hwrk]; exact hkl)
          simp only [Value.slice.injEq] at e
          obtain ⟨rfl, -, rfl⟩ := e
          rw [hwrk] at d1 d2 hcap
          rw [HN.out] at hcap
          have hmem : (R.wr.getD k default).1 ∈ R.names := hmemR _ (getD_memW hkl)
          have Ht : Hid (R1.wr.take (k + 1) = R1.wr.take k ++ [R.wr.getD k default]) := by
            show _ = _
            rw [Hw1.out.1]
            exact take_snocW hkl
          obtain ⟨x, Hx⟩ : ∃ x, Hid (R.wr.getD k default = x) := ⟨_, rfl⟩
          rw [Hx.out] at d1 d2 hmem Ht
          obtain ⟨xf, xs⟩ := x
          dsimp only at d1 d2 hmem
          clear hkeep hwrk
          have hokx := hok k xf hmem
          obtain ⟨o1, o2, o3, o4, o5⟩ := hokx
          have HC : Hid (cuts R1 (R1.wr.take (k + 1)) = (cuts R1 (R1.wr.take k)).cut xf) := by
            show _ = _
            rw [Ht.out, cuts_snoc]
          have hba : Below wr.heap.size wr (wr.alloc (.cells #[.pointer (some ⟨φ xf, 0, none⟩), .int .i64 (xs : Nat)] 82)) := (Below.refl _ _).alloc (Nat.le_refl _) _
          have hL1 := hL.below hba
          have t1 : Turn S w (wr.alloc (.cells #[.pointer (some ⟨φ xf, 0, none⟩), .int .i64 (xs : Nat)] 82)) := ht.alloc _
          have hS1 : ∀ i, (wr.alloc (.cells #[.pointer (some ⟨φ xf, 0, none⟩), .int .i64 (xs : Nat)] 82)).heap.size ≤ i → S i := fun i hi => hS i (Nat.le_trans t1.size hi)
          have hcut := cut_any hL1 hS1 o1 o2 o3 ⟨o4, o5⟩
          generalize cuts R1 (R1.wr.take k) = Rk at *
          go_wp2_with fail
          refine hcut.mono ?_
          rintro e w2 ⟨⟨v, rfl⟩, ⟨σ3, hL3⟩, t2⟩
          clear hcut hL hL1 d1 d2
          go_wp2
          go_roundw
          case rel => exact ⟨k + 1, σ3, by omega, by go_num, by rw [HC.out]; exact hL3, t1.trans t2⟩
          case measure => simp only [intOf]; omega
        · have hkn : k = j := by omega
          subst hkn
          have hall : R1.wr.take k = R1.wr := by rw [Hw1.out.1, ← HN.out, List.take_length]
          rw [hall] at hL
          obtain ⟨-, c1, c2, -, -, -, -, -, -, cf⟩ := hL.cells
          have h5 := hL.setB (v' := .slice none 0 0) (l := []) ⟨rfl, rfl, rfl, Nat.le_refl _, fun _ _ _ => rfl⟩ (World.ownsRow_nil _ _ _ _) (fun v hv => by cases hv) (.inr fun g hg => by cases hg) (fun i hi => hS i (Nat.le_trans ht.size hi))
          have h6 := h5.setD 2 (.int .i64 0) { cuts R1 R1.wr with wr := [], pending := 0 } rfl rfl rfl rfl rfl rfl
          have t6 := (ht.setCell (p := ⟨d, 1, none⟩) (.inl hL.sD) (.slice none 0 0)).setCell (p := ⟨d, 2, none⟩) (.inl hL.sD) (.int .i64 0)
          have HE : Hid ({ cuts R1 R1.wr with wr := [], pending := 0 } = R.settled n) := by
            show _ = _
            unfold RD.settled
            rw [HF.out, HR1.out, Hw1.out.1]
          generalize ({ cuts R1 R1.wr with wr := [], pending := 0 } : RD) = R2 at *
          clear h5 hok
          go_wp2
          go_end0
          exact ⟨⟨_, rfl⟩, ⟨σ2, by rw [← HE.out]; exact h6⟩, t6⟩
end
end Go.Proofs.Ytefgnehahedckaa
