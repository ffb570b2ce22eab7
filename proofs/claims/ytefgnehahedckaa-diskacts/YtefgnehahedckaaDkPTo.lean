import Derived.Test.YtefgnehahedckaaDkJTo
/-
  Contract: settle with the closure of Sync: all writes become sure.
-/
namespace Go.Proofs.Ytefgnehahedckaa
open Go.RowKit Go.Maps

section
variable {w w' : World} {d : Nat} {S : Nat → Prop} {φ : ByteArray → Nat} {σ : ByteArray → Value} {mb : Nat} {vb : Value} {R : RD}
set_option maxRecDepth 10000 in
set_option maxHeartbeats 4000000 in
theorem settle_s (h : Lies8 w d S φ σ mb vb R) (hS : ∀ k, w.heap.size ≤ k → S k) (n : Nat) (hn : totW R.wr ≤ n) (hwl : (R.wr.length : Int) ≤ 9223372036854775807)
    (hmax : ∀ x ∈ R.names, R.su x + totW R.wr ≤ 1099511627776) (hnd : R.names.Nodup) (hF : ∀ x ∈ R.names, sureL n R.wr R.su x ≤ (R.bt x).length) (hbt : ∀ x ∈ R.names, (R.bt x).length ≤ 1073741824)
    (hu : R.used = (sumN (fun x => need (R.bt x).length) R.names : Nat)) (hub : R.used ≤ 16777216) :
    Calls Try.prog 55 #[.pointer (some ⟨d, 0, none⟩), .func (.func 56) #[] #[]] w fun e w' => (∃ v, e = .returned v) ∧ (∃ σ', Lies8 w' d S φ σ' mb (.slice none 0 0) (R.settled n)) ∧ Turn S w w' := by
  obtain ⟨-, c1, -⟩ := h.cells
  obtain ⟨pb, cb, rfl⟩ := writes_shape h.buf
  obtain ⟨F, HF⟩ : ∃ F, Hid (sureL n R.wr R.su = F) := ⟨_, rfl⟩
  rw [HF.out] at hF
  obtain ⟨N, HN⟩ : ∃ N, Hid (R.wr.length = N) := ⟨_, rfl⟩
  have hwl' := hwl
  rw [HN.out] at hwl'
  have h0 := h
  rw [HN.out] at h0 c1
  go_enter Try.func55, Try.ntmps55
  go_wp2
  go_loopw [13] (fun i wr => ∃ (j m : Nat) (su : ByteArray → Nat), j ≤ N ∧ i = .int .i64 (j : Nat) ∧ Lies8 wr d S φ σ mb (.slice pb N cb) { R with su := su } ∧ Hid (totW (R.wr.drop j) ≤ m) ∧ Hid (sureL m (R.wr.drop j) su = F) ∧ Hid (∀ x ∈ R.names, su x + totW (R.wr.drop j) ≤ 1099511627776) ∧ Turn S w wr) (fun i _ => N - (intOf i).toNat)
  case atStart => exact ⟨0, n, R.su, Nat.zero_le _, rfl, h0, hn, HF.out, hmax, Turn.refl _ _⟩
  case round =>
    clear h0 h c1 hn
    obtain ⟨j, m, su, hj, rfl, hL, HM, HS, HB, ht⟩ := hrel
    by_cases hlt : j < N
    · have hjl : j < R.wr.length := by rw [HN.out]; exact hlt
      obtain ⟨g, cap, e, hcap, d1, d2⟩ := hL.write (j := j) hjl
      simp only [Value.slice.injEq] at e
      obtain ⟨rfl, -, rfl⟩ := e
      dsimp only at d1 d2 hcap
      rw [HN.out] at hcap
      have hmem : (R.wr.getD j default).1 ∈ R.names := hL.mem _ (getD_memW hjl)
      have Hd : Hid (R.wr.drop j = R.wr.getD j default :: R.wr.drop (j + 1)) := drop_cons hjl
      obtain ⟨x, Hx⟩ : ∃ x, Hid (R.wr.getD j default = x) := ⟨_, rfl⟩
      rw [Hx.out] at d1 d2 hmem Hd
      obtain ⟨xf, xs⟩ := x
      dsimp only at d1 d2 hmem
      have hb1 := HB.out xf hmem
      rw [Hd.out, totW] at hb1
      dsimp only at hb1
      have hA := heap_alloc_new wr (.cells #[.pointer (some ⟨φ xf, 0, none⟩), .int .i64 (xs : Nat)] 82)
      have hba : Below wr.heap.size wr (wr.alloc (.cells #[.pointer (some ⟨φ xf, 0, none⟩), .int .i64 (xs : Nat)] 82)) := (Below.refl _ _).alloc (Nat.le_refl _) _
      have hza : (wr.alloc (.cells #[.pointer (some ⟨φ xf, 0, none⟩), .int .i64 (xs : Nat)] 82)).heap.size = wr.heap.size + 1 := by simp
      have hxm : xs ≤ m ∧ totW (R.wr.drop (j + 1)) ≤ m - xs := by
        have := HM.out
        rw [Hd.out, totW] at this
        dsimp only at this
        omega
      have hL1 := hL.below hba
      have t1 : Turn S w (wr.alloc (.cells #[.pointer (some ⟨φ xf, 0, none⟩), .int .i64 (xs : Nat)] 82)) := ht.alloc _
      go_wp2_with fail
      generalize wr.alloc (.cells #[.pointer (some ⟨φ xf, 0, none⟩), .int .i64 (xs : Nat)] 82) = wa at *
      have hws := ht.size
      generalize wr.heap.size = ab at *
      obtain ⟨k0, k1, kf⟩ := hL1.fcells hmem
      dsimp only at k1
      have b0 := cell_of hA (i := 0) (v := .pointer (some ⟨φ xf, 0, none⟩)) rfl
      have b1 := cell_of hA (i := 1) (v := .int .i64 (xs : Nat)) rfl
      clear hL ht hba d1 d2
      have hfl : φ xf < wa.heap.size := hL1.ltF hmem
      have habl : ab < wa.heap.size := by omega
      have hFile := hL1.file xf hmem
      have hcr := (sync1_any (φ xf) xs wa.drew).mono (R' := fun e w2 => e = .returned (.int .i64 (xs : Nat)) ∧ Below wa.drew.heap.size wa.drew w2 ∧ w2.cell? ⟨φ xf, 1, none⟩ = some (.int .i64 (su xf : Nat)) ∧ w2.cell? ⟨ab, 0, none⟩ = some (.pointer (some ⟨φ xf, 0, none⟩)) ∧ w2.frozen? ⟨φ xf, 1, none⟩ = false)
        fun e w2 ⟨he, t2⟩ => ⟨he, t2, (t2.cell (p := ⟨φ xf, 1, none⟩) hfl).trans k1, (t2.cell (p := ⟨ab, 0, none⟩) habl).trans b0, froz_of (i := 1) ((t2.block (φ xf) hfl).trans hFile)⟩
      go_region_with (go_at_call 56; refine hcr.mono ?_; rintro e w2 ⟨rfl, t2, k1', b0', kf'⟩)
      all_goals
        clear hcr
        have hL2 := (hL1.drewN 1).same (w' := w2) fun k hk _ => t2.block k hk
        have hL3 := hL2.setS hmem (su xf + xs)
        have t3 : Turn S w (w2.setCell ⟨φ xf, 1, none⟩ (.int .i64 (su xf + xs : Nat))) := ((t1.drew).trans (Turn.of_below t2 (Nat.le_refl _))).setCell (p := ⟨φ xf, 1, none⟩) (.inl (hL1.sF xf hmem)) _
        have HS2 : Hid (sureL (m - xs) (R.wr.drop (j + 1)) (upd su xf (su xf + xs)) = F) := by
          have := HS.out
          rw [Hd.out, sureL] at this
          dsimp only at this
          rw [Nat.min_eq_left hxm.1] at this
          exact this
        have HB2 : Hid (∀ x ∈ R.names, upd su xf (su xf + xs) x + totW (R.wr.drop (j + 1)) ≤ 1099511627776) := by
          intro x hx
          by_cases hxf : x = xf
          · subst hxf; rw [upd_at]; omega
          · have := HB.out x hx
            rw [Hd.out, totW] at this
            dsimp only at this
            rw [upd_ne hxf]
            omega
        rw [Int.natCast_add] at hL3 t3
        go_wp2
        go_roundw
        case rel => exact ⟨j + 1, m - xs, upd su xf (su xf + xs), by omega, by go_num, hL3, hxm.2, HS2, HB2, t3⟩
        case measure => simp only [intOf]; omega
    · have hjn : j = N := by omega
      subst hjn
      have hsF : su = F := by
        have := HS.out
        rw [← HN.out, List.drop_length] at this
        exact this
      subst hsF
      clear HS HB hj hlt HM
      have hok := fun (j : Nat) (x : ByteArray) (hx : x ∈ R.names) => cuts_ok (R := { R with su := su }) hnd hL.mem hF hbt hu hub j hx
      have hmemR := hL.mem
      obtain ⟨-, c1, -⟩ := hL.cells
      obtain ⟨R1, HR1⟩ : ∃ R1 : RD, Hid ({ R with su := su } = R1) := ⟨_, rfl⟩
      have Hw1 : Hid (R1.wr = R.wr ∧ R1.names = R.names) := by rw [← HR1.out]; exact ⟨rfl, rfl⟩
      rw [HR1.out] at hok hL
      go_wp2
      go_loopw [34] (fun i wr2 => ∃ (k : Nat) (σ2 : ByteArray → Value), k ≤ j ∧ i = .int .i64 (k : Nat) ∧ Lies8 wr2 d S φ σ2 mb (.slice pb j cb) (cuts R1 (R1.wr.take k)) ∧ Turn S w wr2) (fun i _ => j - (intOf i).toNat)
      case atStart => exact ⟨0, σ, Nat.zero_le _, rfl, by rw [List.take_zero]; exact hL, ht⟩
      case round =>
        clear hL ht c1
        obtain ⟨k, σ2, hk, rfl, hL, ht⟩ := hrel
        by_cases hlt : k < j
        · have hkeep := cuts_keeps (R1.wr.take k) R1
          have hkl : k < R.wr.length := by rw [HN.out]; exact hlt
          have hwrk : (cuts R1 (R1.wr.take k)).wr = R.wr := hkeep.2.2.1.trans Hw1.out.1
          obtain ⟨g, cap, e, hcap, d1, d2⟩ := hL.write (j := k) (by rw [hwrk]; exact hkl)
          simp only [Value.slice.injEq] at e
          obtain ⟨rfl, -, rfl⟩ := e
          rw [hwrk] at d1 d2 hcap
          rw [HN.out] at hcap
          have hmem : (R.wr.getD k default).1 ∈ R.names := hmemR _ (getD_memW hkl)
          have Ht : Hid (R1.wr.take (k + 1) = R1.wr.take k ++ [R.wr.getD k default]) := by
            show _ = _
            rw [Hw1.out.1]
            exact take_snocW hkl
          obtain ⟨x, Hx⟩ : ∃ x, Hid (R.wr.getD k default = x) := ⟨_, rfl⟩
          rw [Hx.out] at d1 d2 hmem Ht
          obtain ⟨xf, xs⟩ := x
          dsimp only at d1 d2 hmem
          clear hkeep hwrk
          have hokx := hok k xf hmem
          obtain ⟨o1, o2, o3, o4, o5⟩ := hokx
          have HC : Hid (cuts R1 (R1.wr.take (k + 1)) = (cuts R1 (R1.wr.take k)).cut xf) := by
            show _ = _
            rw [Ht.out, cuts_snoc]
          have hba : Below wr.heap.size wr (wr.alloc (.cells #[.pointer (some ⟨φ xf, 0, none⟩), .int .i64 (xs : Nat)] 82)) := (Below.refl _ _).alloc (Nat.le_refl _) _
          have hL1 := hL.below hba
          have t1 : Turn S w (wr.alloc (.cells #[.pointer (some ⟨φ xf, 0, none⟩), .int .i64 (xs : Nat)] 82)) := ht.alloc _
          have hS1 : ∀ i, (wr.alloc (.cells #[.pointer (some ⟨φ xf, 0, none⟩), .int .i64 (xs : Nat)] 82)).heap.size ≤ i → S i := fun i hi => hS i (Nat.le_trans t1.size hi)
          have hcut := cut_any hL1 hS1 o1 o2 o3 ⟨o4, o5⟩
          generalize cuts R1 (R1.wr.take k) = Rk at *
          go_wp2_with fail
          refine hcut.mono ?_
          rintro e w2 ⟨⟨v, rfl⟩, ⟨σ3, hL3⟩, t2⟩
          clear hcut hL hL1 d1 d2
          go_wp2
          go_roundw
          case rel => exact ⟨k + 1, σ3, by omega, by go_num, by rw [HC.out]; exact hL3, t1.trans t2⟩
          case measure => simp only [intOf]; omega
        · have hkn : k = j := by omega
          subst hkn
          have hall : R1.wr.take k = R1.wr := by rw [Hw1.out.1, ← HN.out, List.take_length]
          rw [hall] at hL
          obtain ⟨-, c1, c2, -, -, -, -, -, -, cf⟩ := hL.cells
          have h5 := hL.setB (v' := .slice none 0 0) (l := []) ⟨rfl, rfl, rfl, Nat.le_refl _, fun _ _ _ => rfl⟩ (World.ownsRow_nil _ _ _ _) (fun v hv => by cases hv) (.inr fun g hg => by cases hg) (fun i hi => hS i (Nat.le_trans ht.size hi))
          have h6 := h5.setD 2 (.int .i64 0) { cuts R1 R1.wr with wr := [], pending := 0 } rfl rfl rfl rfl rfl rfl
          have t6 := (ht.setCell (p := ⟨d, 1, none⟩) (.inl hL.sD) (.slice none 0 0)).setCell (p := ⟨d, 2, none⟩) (.inl hL.sD) (.int .i64 0)
          have HE : Hid ({ cuts R1 R1.wr with wr := [], pending := 0 } = R.settled n) := by
            show _ = _
            unfold RD.settled
            rw [HF.out, HR1.out, Hw1.out.1]
          generalize ({ cuts R1 R1.wr with wr := [], pending := 0 } : RD) = R2 at *
          clear h5 hok
          go_wp2
          go_end0
          exact ⟨⟨_, rfl⟩, ⟨σ2, by rw [← HE.out]; exact h6⟩, t6⟩
end
end Go.Proofs.Ytefgnehahedckaa

/-
  The program's disk in memory as the document's disk.
-/
namespace Go.Proofs.Ytefgnehahedckaa
open Go.RowKit Go.Maps

def wrs (buf : List (ByteArray × List Int)) : List (ByteArray × Nat) := buf.map fun w => (w.1, w.2.length)
/-- How the document's disk stands in the object and its files. -/
def DM.raw (M : DM) (mn : Nat) (kv : Int) : RD := ⟨M.names, M.bytes, fun x => (lk M.L x).length, wrs M.buf, mn, (tot M.buf : Nat), (M.blocks : Nat), (M.used : Nat), !M.off, (M.ops : Nat), (M.n : Nat), kv⟩
def DM.raw1 (M : DM) (mn : Nat) (kv : Int) (n : Nat) : RD := { M.raw mn kv with su := sureL n (wrs M.buf) (fun x => (lk M.L x).length) }
/-- The disk in block d is M; all of it lies in blocks of S. -/
def DiskF (w : World) (d : Nat) (S : Nat → Prop) (φ : ByteArray → Nat) (M : DM) : Prop := ∃ σ mb vb mn kv, Lies8 w d S φ σ mb vb (M.raw mn kv) ∧ (M.n ≠ 0 → kv = M.keep)
def DiskAt (w : World) (d : Nat) (S : Nat → Prop) (M : DM) : Prop := ∃ φ, DiskF w d S φ M
theorem DiskF.same {w w' : World} {d : Nat} {S : Nat → Prop} {φ : ByteArray → Nat} {M : DM} (h : DiskF w d S φ M) (hs : ∀ k, k < w.heap.size → S k → w'.heap[k]? = w.heap[k]?) : DiskF w' d S φ M := by
  obtain ⟨σ, mb, vb, mn, kv, h1, h2⟩ := h
  exact ⟨σ, mb, vb, mn, kv, h1.same hs, h2⟩
theorem DiskF.below {w w' : World} {d : Nat} {S : Nat → Prop} {φ : ByteArray → Nat} {M : DM} (h : DiskF w d S φ M) (hb : Below w.heap.size w w') : DiskF w' d S φ M := h.same fun k hk _ => hb.block k hk
theorem DiskAt.same {w w' : World} {d : Nat} {S : Nat → Prop} {M : DM} (h : DiskAt w d S M) (hs : ∀ k, k < w.heap.size → S k → w'.heap[k]? = w.heap[k]?) : DiskAt w' d S M := by
  obtain ⟨φ, σ, mb, vb, mn, kv, h1, h2⟩ := h
  exact ⟨φ, σ, mb, vb, mn, kv, h1.same hs, h2⟩
theorem DiskAt.below {w w' : World} {d : Nat} {S : Nat → Prop} {M : DM} (h : DiskAt w d S M) (hb : Below w.heap.size w w') : DiskAt w' d S M := h.same fun k hk _ => hb.block k hk
theorem DiskAt.mono {w : World} {d : Nat} {S S' : Nat → Prop} {M : DM} (h : DiskAt w d S M) (hS : ∀ k, k < w.heap.size → S k → S' k) : DiskAt w d S' M := by
  obtain ⟨φ, σ, mb, vb, mn, kv, h1, h2⟩ := h
  exact ⟨φ, σ, mb, vb, mn, kv, h1.mono hS, h2⟩

theorem Lies8.congr {w : World} {d : Nat} {S : Nat → Prop} {φ : ByteArray → Nat} {σ : ByteArray → Value} {mb : Nat} {vb : Value} {R R' : RD} (h : Lies8 w d S φ σ mb vb R) (hn : ∀ x, x ∈ R'.names ↔ x ∈ R.names) (hb : ∀ x ∈ R.names, R'.bt x = R.bt x) (hs : ∀ x ∈ R.names, R'.su x = R.su x) (hw : R'.wr = R.wr) (hm : R'.mn = R.mn)
    (e1 : R'.pending = R.pending) (e2 : R'.blocks = R.blocks) (e3 : R'.used = R.used) (e4 : R'.on = R.on) (e5 : R'.ops = R.ops) (e6 : R'.armed = R.armed) (e7 : R'.keep = R.keep) : Lies8 w d S φ σ mb vb R' := by
  refine ⟨?_, ?_, by rw [hw]; exact h.buf, fun x hx => ?_, fun x hx => ?_, fun x hx y hy => h.inj x ((hn x).1 hx) y ((hn y).1 hy), fun x hx y hy => h.apart x ((hn x).1 hx) y ((hn y).1 hy), fun v hv => (hn _).2 (h.mem v (by rw [← hw]; exact hv)), h.sD, h.sM, h.sB, fun x hx => h.sF x ((hn x).1 hx), fun x hx => h.sR x ((hn x).1 hx)⟩
  · have := h.obj
    unfold objV at this ⊢
    rw [e1, e2, e3, e4, e5, e6, e7]
    exact this
  · rw [hm]
    exact h.map.congr hn fun x _ => rfl
  · rw [hs x ((hn x).1 hx)]
    exact h.file x ((hn x).1 hx)
  · rw [hb x ((hn x).1 hx)]
    exact h.row x ((hn x).1 hx)

theorem used_sum {buf : List (ByteArray × List Int)} : ∀ {L : List (ByteArray × List Int)}, (nms L).Nodup → usedL buf L = sumN (fun x => need (lk L x ++ pend buf x).length) (nms L)
  | [], _ => rfl
  | f :: r, h => by
    have h' := List.nodup_cons.1 (by exact h : (f.1 :: nms r).Nodup)
    show need (f.2.length + (pend buf f.1).length) + usedL buf r = need (lk (f :: r) f.1 ++ pend buf f.1).length + sumN _ (nms r)
    rw [used_sum h'.2, lk, if_pos rfl, List.length_append]
    congr 1
    refine sumN_congr fun x hx => ?_
    rw [lk, if_neg fun e => h'.1 (by rw [e]; exact hx)]
theorem sureL_eq : ∀ (buf : List (ByteArray × List Int)) (n : Nat) (su : ByteArray → Nat) (x : ByteArray), sureL n (wrs buf) su x = su x + (left n buf x).length
  | [], _, _, _ => rfl
  | w :: r, n, su, x => by
    show sureL (n - w.2.length) (wrs r) (upd su w.1 (su w.1 + min w.2.length n)) x = _
    rw [sureL_eq r, left, List.length_append]
    by_cases hx : w.1 = x
    · rw [if_pos hx, ← hx, upd_at, List.length_take, Nat.min_comm n]
      omega
    · rw [if_neg hx, upd_ne (Ne.symm hx)]
      simp
theorem totW_wrs : ∀ buf : List (ByteArray × List Int), totW (wrs buf) = tot buf
  | [] => rfl
  | w :: r => by show w.2.length + totW (wrs r) = _; rw [totW_wrs r, tot]
theorem wrs_mem {buf : List (ByteArray × List Int)} {v : ByteArray × Nat} (h : v ∈ wrs buf) : ∃ w ∈ buf, w.1 = v.1 ∧ w.2.length = v.2 := by
  obtain ⟨w, hw, rfl⟩ := List.mem_map.1 h
  exact ⟨w, hw, rfl, rfl⟩
theorem wrs_names (buf : List (ByteArray × List Int)) (x : ByteArray) : x ∈ (wrs buf).map Prod.fst ↔ ∃ w ∈ buf, w.1 = x := by
  unfold wrs
  rw [List.map_map]
  simp [List.mem_map]
/-- What is in the buffer is in the files. -/
theorem tot_le {M : DM} (hI : M.Inv) : tot M.buf ≤ 1073741824 := by
  have hn := hI.nodup
  have hmem := hI.mem
  have : tot M.buf ≤ 64 * usedL M.buf M.L := by
    have key : ∀ (L : List (ByteArray × List Int)) (buf : List (ByteArray × List Int)), (nms L).Nodup → (∀ w ∈ buf, w.1 ∈ nms L) → tot buf ≤ 64 * usedL buf L := by
      intro L
      induction L with
      | nil =>
        intro buf _ hm
        cases buf with
        | nil => exact Nat.le_refl _
        | cons w r => exact absurd (hm w List.mem_cons_self) (by simp [nms])
      | cons f r ih =>
        intro buf hn hm
        have h' := List.nodup_cons.1 (by exact hn : (f.1 :: nms r).Nodup)
        have h1 := ih (buf.filter fun w => decide (w.1 ≠ f.1)) h'.2 (fun w hw => by
          obtain ⟨h2, h3⟩ := List.mem_filter.1 hw
          rcases List.mem_cons.1 (by exact hm w h2 : w.1 ∈ f.1 :: nms r) with h4 | h4
          · exact absurd h4 (of_decide_eq_true h3)
          · exact h4)
        have h2 := tot_gone buf f.1
        have h3 : usedL (buf.filter fun w => decide (w.1 ≠ f.1)) r = usedL buf r := used_congr fun g hg => by
          rw [pend_gone _ _ _ fun e => h'.1 (by rw [← e]; exact List.mem_map_of_mem hg)]
        have h4 := need_le (f.2.length + (pend buf f.1).length)
        rw [usedL]
        rw [h3] at h1
        omega
    exact key M.L M.buf hn hmem
  have h2 := hI.fits
  have h3 := hI.top
  unfold DM.used at h2
  omega
theorem DM.Inv.sizes {M : DM} (hI : M.Inv) : M.used ≤ 16777216 ∧ tot M.buf ≤ 1073741824 ∧ ∀ x, (M.bytes x).length ≤ 1073741824 ∧ (lk M.L x).length ≤ (M.bytes x).length :=
  ⟨Nat.le_trans hI.fits hI.top, tot_le hI, fun x => ⟨Nat.le_of_lt (hI.size x), by unfold DM.bytes; rw [List.length_append]; omega⟩⟩

/-- What settle makes of it: a crash that keeps so much, but that the power stays as it is. -/
theorem settled_lies {w : World} {d : Nat} {S : Nat → Prop} {φ : ByteArray → Nat} {σ : ByteArray → Value} {mb : Nat} {vb : Value} {M : DM} {mn : Nat} {kv : Int} (hI : M.Inv) (n : Nat) (h : Lies8 w d S φ σ mb vb ((M.raw mn kv).settled n)) :
    Lies8 w d S φ σ mb vb (DM.raw { M.crash n with off := M.off } mn kv) := by
  have hnd := hI.nodup
  have hm : ∀ v ∈ wrs M.buf, v.1 ∈ M.names := fun v hv => by
    obtain ⟨u, hu, e, _⟩ := wrs_mem hv
    rw [← e]; exact hI.mem u hu
  have hsu : ∀ x, sureL n (wrs M.buf) (fun x => (lk M.L x).length) x = (lk M.L x).length + (left n M.buf x).length := fun x => sureL_eq _ _ _ _
  have hle : ∀ x, sureL n (wrs M.buf) (fun x => (lk M.L x).length) x ≤ (M.bytes x).length := fun x => by
    rw [hsu]; unfold DM.bytes; rw [List.length_append]; have := left_le M.buf x n; omega
  obtain ⟨k1, k2, k3, k4, k5, k6, k7, k8, k9, k10⟩ := cuts_keeps (wrs M.buf) (M.raw1 mn kv n)
  have hbt : ∀ x ∈ M.names, (cuts (M.raw1 mn kv n) (wrs M.buf)).bt x = lk M.L x ++ left n M.buf x := by
    intro x _
    rw [cuts_bt]
    show (if x ∈ (wrs M.buf).map Prod.fst then (M.bytes x).take (sureL n (wrs M.buf) (fun x => (lk M.L x).length) x) else M.bytes x) = _
    by_cases hx : x ∈ (wrs M.buf).map Prod.fst
    · rw [if_pos hx, hsu]
      exact left_take M.buf x n _
    · rw [if_neg hx]
      have hp : pend M.buf x = [] := pend_none fun w hw e => hx ((wrs_names _ _).2 ⟨w, hw, e⟩)
      have hl : left n M.buf x = [] := List.eq_nil_of_length_eq_zero (by have := left_le M.buf x n; rw [hp] at this; simpa using this)
      unfold DM.bytes
      rw [hp, hl]
  have hnames : DM.names { M.crash n with off := M.off } = M.names := DM.nms_map M.L _
  have hlk : ∀ x ∈ M.names, lk (DM.L { M.crash n with off := M.off }) x = lk M.L x ++ left n M.buf x := fun x hx => DM.lk_map (fun x => left n M.buf x) hx
  have hn' : (n : Int).toNat = n := Int.toNat_natCast n
  obtain ⟨u1, _⟩ := cuts_used (wrs M.buf) (M.raw1 mn kv n) hnd hm (fun x _ => hle x) (by show ((M.used : Nat) : Int) = _; unfold DM.used; rw [used_sum hnd]; rfl)
  have e3 : (({ M.crash n with off := M.off } : DM).used : Int) = ((M.raw mn kv).settled n).used := by
    show _ = (cuts (M.raw1 mn kv n) (wrs M.buf)).used
    rw [u1]
    have hnd2 : (nms (DM.L { M.crash n with off := M.off })).Nodup := by
      have : nms (DM.L { M.crash n with off := M.off }) = nms M.L := DM.nms_map M.L _
      rw [this]; exact hnd
    unfold DM.used
    rw [used_sum hnd2]
    show ((sumN _ (nms (DM.L { M.crash n with off := M.off })) : Nat) : Int) = (sumN _ M.names : Nat)
    rw [show nms (DM.L { M.crash n with off := M.off }) = M.names from DM.nms_map M.L _]
    congr 1
    refine sumN_congr fun x hx => ?_
    rw [hbt x hx, hlk x hx]
    show need (_ ++ pend [] x).length = _
    rw [pend, List.append_nil]
  refine h.congr (fun x => ?_) (fun x hx => ?_) (fun x hx => ?_) rfl ?_ rfl ?_ e3 ?_ ?_ ?_ ?_
  · show x ∈ DM.names { M.crash n with off := M.off } ↔ x ∈ (cuts (M.raw1 mn kv n) (wrs M.buf)).names
    rw [hnames, k1]
    exact Iff.rfl
  · have hx' : x ∈ M.names := by
      have : x ∈ (cuts (M.raw1 mn kv n) (wrs M.buf)).names := hx
      rw [k1] at this; exact this
    show DM.bytes { M.crash n with off := M.off } x = (cuts (M.raw1 mn kv n) (wrs M.buf)).bt x
    rw [hbt x hx']
    unfold DM.bytes
    rw [hlk x hx']
    show _ ++ pend [] x = _
    rw [pend, List.append_nil]
  · have hx' : x ∈ M.names := by
      have : x ∈ (cuts (M.raw1 mn kv n) (wrs M.buf)).names := hx
      rw [k1] at this; exact this
    show (lk (DM.L { M.crash n with off := M.off }) x).length = (cuts (M.raw1 mn kv n) (wrs M.buf)).su x
    rw [hlk x hx', k2, List.length_append]
    exact (hsu x).symm
  · exact k4.symm
  · exact k6.symm
  · exact k7.symm
  · exact k8.symm
  · exact k9.symm
  · exact k10.symm
end Go.Proofs.Ytefgnehahedckaa
