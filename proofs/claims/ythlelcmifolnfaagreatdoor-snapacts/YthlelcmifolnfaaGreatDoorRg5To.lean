import Derived.Test.YthlelcmifolnfaaGreatDoorRf9
import Derived.Deep.DeepCutAuto
namespace Go.Proofs.YthlelcmifolnfaaGreatDoor
open Go.RowKit Go.Maps
theorem fallL_len {N : Nat} {buf l : List (ByteArray × List Int)} {g : ByteArray × List Int} (h : g ∈ fallL N buf l) : ∃ f ∈ l, g.2.length ≤ f.2.length + tot buf := by
  unfold fallL at h
  obtain ⟨f, hf, rfl⟩ := List.mem_map.1 h
  refine ⟨f, hf, ?_⟩
  have h1 := left_le buf f.1 N
  have h2 := pend_le_tot buf f.1
  show (f.2 ++ left N buf f.1).length ≤ _
  rw [List.length_append]
  omega
theorem trM_mem {t : List Tr} {f : Tr} (h : f ∈ t) : (f.1, f.2.2) ∈ trM t := List.mem_map.2 ⟨f, h, rfl⟩
theorem trM_back {t : List Tr} {g : ByteArray × List Int} (h : g ∈ trM t) : ∃ f ∈ t, (f.1, f.2.2) = g := List.mem_map.1 h
set_option maxRecDepth 10000 in
set_option maxHeartbeats 4000000 in
theorem rsure_any {w : World} {r : Nat} {S : Nat → Prop} {vl vb : Value} {tl tb : List Tr} {blocks : Nat} {off : Bool} {ops : Nat} {n keep : Int} (h : RefLies w r S vl vb tl tb blocks off ops n keep) (hS : ∀ k, w.heap.size ≤ k → S k) (N : Nat) (hN : (N : Int) ≤ 9223372036854775807) (hnd : (nms (trM tl)).Nodup) (hmem : ∀ f ∈ tb, f.1 ∈ nms (trM tl))
    (hl : tl.length ≤ 1099511627776) (hlb : tb.length ≤ 1099511627776) (hsz : ∀ f ∈ tl, f.2.2.length + tot (trM tb) ≤ 549755813888) (hst : tot (trM tb) ≤ 549755813888) :
    Calls Tryz.prog 81 #[.pointer (some ⟨r, 0, none⟩), .int .i64 (N : Nat)] w fun e w' => (∃ v, e = .returned v) ∧ (∃ tl', RefLies w' r S vl (.slice none 0 0) tl' [] blocks off ops n keep ∧ trM tl' = fallL N (trM tb) (trM tl)) ∧ Turn S w w' := by
  obtain ⟨-, -, c2, -⟩ := h.cells
  obtain ⟨pb, cb, rfl, hcb⟩ := tr_shape h.rowB
  have hlt := h.lt
  have hS' : Hid (∀ k, w.heap.size ≤ k → S k) := hS
  have hnd' : Hid (nms (trM tl)).Nodup := hnd
  have hmem' : Hid (∀ f ∈ tb, f.1 ∈ nms (trM tl)) := hmem
  have hsz' : Hid (∀ f ∈ tl, f.2.2.length + tot (trM tb) ≤ 549755813888) := hsz
  have hst' : Hid (tot (trM tb) ≤ 549755813888) := hst
  clear hS hnd hmem hsz hst
  have h0 : ∃ tj, RefLies w r S vl (.slice pb tb.length cb) tj tb blocks off ops n keep ∧ Hid (tj.length = tl.length) ∧ Hid (trM tj = fallL N (trM (tb.take 0)) (trM tl)) := ⟨tl, h, rfl, (fallL_nil N _).symm⟩
  go_enter Tryz.func81, Tryz.ntmps81
  go_wp2
  go_loopw [13, 1] (fun t s wr => ∃ j : Nat, j ≤ tb.length ∧ t = .int .i64 (j : Nat) ∧ s = .int .i64 ((N - tot (trM (tb.take j)) : Nat) : Int) ∧ (∃ tj, RefLies wr r S vl (.slice pb tb.length cb) tj tb blocks off ops n keep ∧ Hid (tj.length = tl.length) ∧ Hid (trM tj = fallL N (trM (tb.take j)) (trM tl))) ∧ Turn S w wr) (fun t _ _ => tb.length - (intOf t).toNat)
  case atStart => exact ⟨0, by omega, rfl, rfl, h0, Turn.refl _ _⟩
  case round =>
    clear h0 c2 h
    obtain ⟨j, hj, rfl, rfl, ⟨tj, h, htl, hM⟩, ht⟩ := hrel
    by_cases hjl : j < tb.length
    · obtain ⟨gb, c', e, _, hgb, d0, d1⟩ := tr_at h.rowB hjl
      simp only [Value.slice.injEq] at e
      obtain ⟨rfl, -, rfl⟩ := e
      have hy := hmem'.out _ (getD_mem8 hjl)
      have hw0 := (h.byB _ (getD_mem8 hjl)).1
      have htk : Hid (trM (tb.take (j + 1)) = trM (tb.take j) ++ [((tb.getD j default).1, (tb.getD j default).2.2)]) := by
        show _ = _
        rw [List.take_succ_eq_append_getElem hjl, List.getD_eq_getElem?_getD, List.getElem?_eq_getElem hjl]
        unfold trM
        rw [List.map_append]
        rfl
      have hy' : (tb.getD j default).1 ∈ nms (trM tj) := by rw [hM.out, fallL_names]; exact hy
      have htot1 : Hid (tot (trM (tb.take j)) + (tb.getD j default).2.2.length ≤ 549755813888) := by
        have h1 := tot_take hjl
        have h2 := tot_take_le tb (j + 1)
        have h3 := hst'.out
        show _ ≤ _
        omega
      clear hy
      generalize tb.getD j default = Y at *
      obtain ⟨y, uy, bb⟩ := Y
      dsimp only at d0 d1 hw0 htk hy' htot1
      obtain ⟨py, cy, rfl⟩ := hw0.shape
      have hal := (Below.refl wr.heap.size wr).alloc (Nat.le_refl _) (.cells #[.string y, .slice py bb.length cy] 126)
      have h1 := h.below hal
      have htjl : tj.length ≤ 1099511627776 := by rw [htl.out]; exact hl
      have hc := rfind_any h1 htjl y
      have hcy : bb.length ≤ cy := by
        obtain ⟨_, _, e, q, _⟩ := hw0.has
        simp only [Value.slice.injEq] at e
        obtain ⟨_, _, rfl⟩ := e
        exact q
      obtain ⟨nn, hnn⟩ : ∃ nn, nn = N - tot (trM (tb.take j)) := ⟨_, rfl⟩
      rw [← hnn]
      have hnn' : Hid (nn = N - tot (trM (tb.take j))) := hnn
      clear hnn
      have hnb : (nn : Int) ≤ 9223372036854775807 := by have := hnn'.out; omega
      go_upto_if 22 with fail
      go_cut [6] (fun tv wc => (∃ m : Nat, tv = .slice py m cy ∧ m ≤ nn ∧ Hid (m = min nn bb.length)) ∧ wc = wr.alloc (.cells #[.string y, .slice py bb.length cy] 126))
      case first =>
        by_cases hlong : nn < bb.length
        · have hlong' : (nn : Int) < bb.length := by omega
          go_wp2
          go_meet
          case rel => exact ⟨⟨nn, by simp, Nat.le_refl _, (Nat.min_eq_left (Nat.le_of_lt hlong)).symm⟩, rfl⟩
        · have hlong' : (bb.length : Int) ≤ nn := by omega
          go_wp2
          go_meet
          case rel => exact ⟨⟨bb.length, rfl, by omega, (Nat.min_eq_right (by omega)).symm⟩, rfl⟩
      case rest =>
        obtain ⟨⟨m, rfl, hmn, hm⟩, rfl⟩ := hcut
        go_wp2_with fail
        refine hc.mono ?_
        clear hc
        rintro e w2 ⟨⟨z, rfl, hz⟩, hb2⟩
        rcases hz with ⟨_, hno⟩ | ⟨i, rfl, hi, hnm, -⟩
        · exact absurd hy' hno
        have h2 := h1.below hb2
        obtain ⟨g, c, rfl, hcc, hg, a0, a1⟩ := tr_at h2.rowL hi
        have hown := (h2.byL _ (getD_mem8 hi)).1
        obtain ⟨-, r1, -⟩ := h2.cells
        have hr2 := h2.lt
        obtain ⟨pu, cu, hu⟩ := hown.shape
        rw [hu] at a1
        have hml : m ≤ bb.length := by rw [hm.out]; exact Nat.min_le_right _ _
        have hbl : (bb.take m).length = m := by rw [List.length_take]; omega
        have hbH : Has w2 (.slice py m cy) (bb.take m) := (((hw0.has.below hal (Nat.le_refl _)).below hb2 (Nat.le_refl _))).head9 hml
        have htk2 : Hid (bb.take m = bb.take nn) := by
          show _ = _
          rw [hm.out]
          by_cases hq : nn ≤ bb.length
          · rw [Nat.min_eq_left hq]
          · rw [Nat.min_eq_right (by omega), List.take_of_length_le (Nat.le_refl _), List.take_of_length_le (by omega)]
        have hoH := hown.has
        rw [hu] at hoH
        have hfz : Hid (∀ w' v', Below w2.heap.size w2 w' → Owns w' w2.heap.size 5 v' ((tj.getD i default).2.2 ++ bb.take m) → (RefLies (w'.setCell ⟨g, i * 2 + 1, none⟩ v') r S (.slice (some ⟨g, 0, none⟩) tj.length c) (.slice (some ⟨gb, 0, none⟩) tb.length cb) (tj.set i ((tj.getD i default).1, v', (tj.getD i default).2.2 ++ bb.take m)) tb blocks off ops n keep ∧ Turn S w (w'.setCell ⟨g, i * 2 + 1, none⟩ v')) ∧ w'.frozen? ⟨g, i * 2 + 1, none⟩ = false) := by
          intro w' v' hb' ho'
          have h3 := h2.below hb'
          have hsz : w.heap.size ≤ w2.heap.size := Nat.le_trans ht.size (Nat.le_trans hal.size hb2.size)
          refine ⟨⟨h3.setF i (row_base ho' (Nat.zero_le _)) (fun k hk => hS'.out k (Nat.le_trans hsz (World.ownsRow.lt ho' k hk).1)), ?_⟩, World.ownsRow.frozenAt h3.rowL _⟩
          exact ((ht.trans (Turn.of_below hal (Nat.le_refl _))).trans ((Turn.of_below hb2 (Nat.le_refl _)).trans (Turn.of_below hb' (Nat.le_refl _)))).setCell (.inl (h3.sL g rfl)) v'
        have hfin : Hid (∀ v', trM (tj.set i ((tj.getD i default).1, v', (tj.getD i default).2.2 ++ bb.take m)) = fallL N (trM (tb.take (j + 1))) (trM tl)) := by
          intro v'
          rw [trM_set, htk.out, hM.out]
          rw [fallL_step N (trM (tb.take j)) y bb hnd'.out (i := i) (zs := (tj.getD i default).2.2) (by rw [← hM.out]; unfold trM; rw [List.getElem?_map, List.getElem?_eq_getElem hi, ← hnm, List.getD_eq_getElem?_getD, List.getElem?_eq_getElem hi]; rfl), hnm, ← hnn'.out, htk2.out]
        have hslot : Hid (N - tot (trM (tb.take (j + 1))) = nn - m) := by
          show _ = _
          have h5 := hnn'.out
          have h6 := hm.out
          rw [htk.out, tot_append]
          show N - (tot (trM (tb.take j)) + (bb.length + 0)) = _
          omega
        have hlens : (tj.getD i default).2.2.length + m ≤ 1099511627776 := by
          obtain ⟨f, hf, hle⟩ := fallL_len (by rw [← hM.out]; exact trM_mem (getD_mem8 hi) : ((tj.getD i default).1, (tj.getD i default).2.2) ∈ fallL N (trM (tb.take j)) (trM tl))
          obtain ⟨q, hq, rfl⟩ := trM_back hf
          have h4 := hsz'.out q hq
          have h5 := htot1.out
          have h6 := tot_take_le tb j
          dsimp only at hle
          omega
        have hlen1 : ([] : List Int).length + (tj.getD i default).2.2.length ≤ 1099511627776 := by
          rw [List.length_nil]; omega
        have hi' : (i : Int) < (tj.length : Int) := by omega
        have htl2 : Hid ((tj.set i ((tj.getD i default).1, undef, [])).length = tl.length) := by show _ = _; rw [List.length_set]; exact htl.out
        clear hw0 hcy htk hnn' hnd' hmem' hy' h1 hown hu htot1 hsz' hst' hM htl hml
        generalize hbi : (tj.getD i default).2.2 = bi at *
        go_wp2_with fail
        apply once_proved9
        case main =>
          intro key
          go_region_law (first
            | (refine step_fresh8 _ rfl (.tmp 39) (.tmp 47) rfl (by first | exact ext_alloc8 (ext_drew8 _) _ | exact ext_on8 (ext_alloc8 (Below.refl _ _) _) | exact ext_alloc8 (Below.refl _ _) _) _ _ [] _ rfl rfl hoH (by first | exact World.ownsRow_made _ #[] 0 (Nat.le_refl _) (by decide) rfl | exact owns_none8 _) hlen1 ?_; intro v7 w7 ho7 hb7; have b1 := (hb7.cell (p := ⟨r, 1, none⟩) hr2).trans r1; have bA := (hb7.cell (p := ⟨g, i * 2 + 1, none⟩) hg).trans a1)
            | (refine step_fresh8 _ rfl (.tmp 48) (.tmp 49) rfl hb7 _ _ _ _ rfl rfl hbH ho7 (by rw [List.nil_append, hbl]; omega) ?_; intro v8 w8 ho8 hb8; obtain ⟨p8, q8, rfl⟩ := ho8.shape; have cA8 := (hb8.cell (p := ⟨g, i * 2 + 1, none⟩) hg).trans a1; have c18 := (hb8.cell (p := ⟨r, 1, none⟩) hr2).trans r1; have hst := hfz.out w8 _ hb8 ho8; have fA8 := hst.2; have HST : Hid _ := hst; clear hst))
          all_goals
            revert v7 w7 ho7 hb7 b1 bA p8 q8 w8
            exact key.out
        case proof =>
          intro v7 w7 ho7 hb7 b1 bA w8 hb8 p8 q8 ho8 cA8 c18 fA8 HST
          clear hfz ho7 hb7 b1 bA ho8
          go_wp2
          go_roundw
          case rel =>
            have H := HST.out.1
            rw [List.nil_append, List.length_append, hbl] at H
            exact ⟨j + 1, by omega, by simp, by rw [hslot.out]; congr 1; omega, ⟨_, H.1, by show _ = _; rw [List.length_set]; have := htl2.out; rwa [List.length_set] at this, hfin.out _⟩, H.2⟩
          case measure => simp only [intOf]; omega
    · obtain rfl : j = tb.length := by omega
      rw [List.take_length] at hM
      have hfin : Hid (∃ tl', RefLies (wr.setCell ⟨r, 2, none⟩ (.slice none 0 0)) r S vl (.slice none 0 0) tl' [] blocks off ops n keep ∧ trM tl' = fallL N (trM tb) (trM tl)) := ⟨tj, h.noB, hM.out⟩
      obtain ⟨-, -, d2, -⟩ := h.cells
      have f2 := h.free 2
      have t2 := ht.setCell (p := ⟨r, 2, none⟩) (.inl h.sR) (.slice none 0 0)
      clear h hM
      go_wp2
      go_end0
      exact ⟨⟨_, rfl⟩, hfin.out, t2⟩
theorem trM_length (t : List Tr) : (trM t).length = t.length := List.length_map _
theorem ref_sizes {M : DM} (hI : M.Inv) {tl tb : List Tr} (hL : trM tl = M.L) (hB : trM tb = M.buf) : tl.length ≤ 16777216 ∧ tb.length ≤ M.ops ∧ (∀ f ∈ tl, f.2.2.length + tot (trM tb) ≤ 2147483648) ∧ tot (trM tb) ≤ 1073741824 ∧ usedL (trM tb) (trM tl) ≤ 16777216 := by
  obtain ⟨z1, z2, z3⟩ := hI.sizes
  refine ⟨?_, ?_, fun f hf => ?_, by rw [hB]; exact z2, by rw [hB, hL]; exact z1⟩
  · rw [← trM_length, hL]; exact hI.count
  · rw [← trM_length, hB]; exact hI.few
  · have hm : (f.1, f.2.2) ∈ M.L := by rw [← hL]; exact trM_mem hf
    have h1 := lk_mem hI.nodup hm
    have h2 := z3 f.1
    have h3 : (lk M.L f.1).length = f.2.2.length := by
      have : lk M.L f.1 = f.2.2 := h1
      rw [this]
    rw [hB]
    omega
section
variable {w : World} {r : Nat} {S : Nat → Prop} {M : DM}
theorem rsure_at (h : RefAt w r S M) (hI : M.Inv) (ho : M.ops ≤ 1099511627776) (hS : ∀ k, w.heap.size ≤ k → S k) (N : Nat) (hN : (N : Int) ≤ 9223372036854775807) :
    Calls Tryz.prog 81 #[.pointer (some ⟨r, 0, none⟩), .int .i64 (N : Nat)] w fun e w' => (∃ v, e = .returned v) ∧ RefAt w' r S { M.crash N with off := M.off } ∧ Turn S w w' := by
  obtain ⟨vl, vb, tl, tb, n0, h1, hL, hB, hn⟩ := h
  obtain ⟨z1, z2, z3, z4, z5⟩ := ref_sizes hI hL hB
  refine (rsure_any h1 hS N hN (by rw [hL]; exact hI.nodup) (fun f hf => ?_) (by omega) (by omega) (fun f hf => by have := z3 f hf; omega) (by omega)).mono ?_
  · have hm : (f.1, f.2.2) ∈ M.buf := by rw [← hB]; exact trM_mem hf
    rw [hL]; exact hI.mem _ hm
  · rintro e w' ⟨he, ⟨tl', h2, h3⟩, ht⟩
    refine ⟨he, ⟨_, _, tl', [], n0, h2, ?_, rfl, hn⟩, ht⟩
    rw [h3, hL, hB]
    unfold fallL DM.crash
    rw [Int.toNat_natCast]
set_option maxRecDepth 10000 in
theorem rcrash_any (h : RefAt w r S M) (hI : M.Inv) (ho : M.ops ≤ 1099511627776) (hS : ∀ k, w.heap.size ≤ k → S k) (k : Int) (hk : -9223372036854775808 ≤ k ∧ k ≤ 9223372036854775807) :
    Calls Tryz.prog 24 #[.pointer (some ⟨r, 0, none⟩), .int .i64 k] w fun e w' => (∃ v, e = .returned v) ∧ RefAt w' r S (M.crash k) ∧ Turn S w w' := by
  have hfin : Hid (∀ N : Nat, k.toNat = N → ∀ w', RefAt w' r S { M.crash N with off := M.off } → Turn S w w' → (∃ v, w'.cell? ⟨r, 3, none⟩ = some (.bool v)) ∧ w'.frozen? ⟨r, 3, none⟩ = false ∧ RefAt (w'.setCell ⟨r, 3, none⟩ (.bool true)) r S (M.crash k) ∧ Turn S w (w'.setCell ⟨r, 3, none⟩ (.bool true))) := by
    intro N hN w' h2 ht
    obtain ⟨vl, vb, tl, tb, n0, h1, hL, hB, hn⟩ := h2
    obtain ⟨-, -, -, c3, -⟩ := h1.cells
    refine ⟨⟨_, c3⟩, h1.free 3, ⟨vl, vb, tl, tb, n0, h1.setD 3 (.bool true) (blocks' := M.blocks) (off' := true) (ops' := M.ops) (n' := n0) (keep' := M.keep) rfl, ?_, hB, hn⟩, ht.setCell (p := ⟨r, 3, none⟩) (.inl h1.sR) _⟩
    rw [hL]
    unfold DM.crash
    rw [Int.toNat_natCast, hN]
  rcases Int.lt_or_le k 0 with hlt | hge
  · have hc := rsure_at h hI ho hS 0 (by omega)
    change Calls _ _ #[_, .int .i64 0] _ _ at hc
    have hk0 : k.toNat = 0 := by omega
    go_enter Tryz.func24, Tryz.ntmps24
    go_wp2_with fail
    refine hc.mono ?_
    rintro e w' ⟨⟨v, rfl⟩, h2, ht⟩
    obtain ⟨⟨v3, c3⟩, q3, q4, q5⟩ := hfin.out 0 hk0 w' h2 ht
    clear hc hfin h2
    go_wp2
    go_end0
    exact ⟨⟨_, rfl⟩, q4, q5⟩
  · obtain ⟨N, rfl⟩ := Int.eq_ofNat_of_zero_le hge
    have hc := rsure_at h hI ho hS N hk.2
    go_enter Tryz.func24, Tryz.ntmps24
    go_wp2_with fail
    refine hc.mono ?_
    rintro e w' ⟨⟨v, rfl⟩, h2, ht⟩
    obtain ⟨⟨v3, c3⟩, q3, q4, q5⟩ := hfin.out N (by omega) w' h2 ht
    clear hc hfin h2
    go_wp2
    go_end0
    exact ⟨⟨_, rfl⟩, q4, q5⟩
set_option maxRecDepth 10000 in
theorem rbegin_any (h : RefAt w r S M) (hO : M.Ok) (hS : ∀ k, w.heap.size ≤ k → S k) :
    Calls Tryz.prog 90 #[.pointer (some ⟨r, 0, none⟩)] w fun e w' => e = .returned (.bool M.begins) ∧ RefAt w' r S M.begun ∧ Turn S w w' := by
  obtain ⟨vl, vb, tl, tb, n0, h1, hL, hB, hn⟩ := h
  obtain ⟨-, -, -, -, c4, -, -⟩ := h1.cells
  have f4 := h1.free 4
  have hops := hO.ops
  have hnb := hO.n
  have h2 := h1.setD 4 (.int .i64 ((M.ops : Int) + 1)) (blocks' := M.blocks) (off' := M.off) (ops' := M.ops + 1) (n' := n0) (keep' := M.keep) rfl
  have t2 := (Turn.refl S w).setCell (p := ⟨r, 4, none⟩) (.inl h1.sR) (.int .i64 ((M.ops : Int) + 1))
  obtain ⟨-, -, -, -, -, d5, -⟩ := h2.cells
  have g5 := h2.free 5
  rcases Int.lt_or_le n0 1 with hlt | hge
  · have hb : M.begins = true := by unfold DM.begins; exact decide_eq_true (by omega)
    have e1 : M.begun = { M with ops := M.ops + 1, n := M.n - 1 } := by unfold DM.begun; rw [if_neg (by omega)]
    have hD : Hid (RefAt (w.setCell ⟨r, 4, none⟩ (.int .i64 ((M.ops : Int) + 1))) r S M.begun) := by
      show RefAt _ _ _ _
      rw [e1]
      exact ⟨vl, vb, tl, tb, n0, h2, hL, hB, by show n0.toNat = M.n - 1; omega⟩
    rw [hb]
    clear e1 hb h1 h2 hn
    go_enter Tryz.func90, Tryz.ntmps90
    go_wp2
    go_ret
    exact ⟨rfl, hD.out, t2⟩
  · by_cases h1n : n0 = 1
    · subst h1n
      have hn1 : M.n = 1 := by rw [← hn]; rfl
      have hb : M.begins = false := by unfold DM.begins; exact decide_eq_false (by omega)
      have e1 : M.begun = ({ M with ops := M.ops + 1, n := 0 } : DM).crash M.keep := by unfold DM.begun; rw [if_pos hn1]
      have h3 := h2.setD 5 (.int .i64 0) (blocks' := M.blocks) (off' := M.off) (ops' := M.ops + 1) (n' := 0) (keep' := M.keep) rfl
      have t3 := t2.setCell (p := ⟨r, 5, none⟩) (.inl h1.sR) (.int .i64 0)
      obtain ⟨-, -, -, -, -, e5, e6⟩ := h3.cells
      have hD : RefAt ((w.setCell ⟨r, 4, none⟩ (.int .i64 ((M.ops : Int) + 1))).setCell ⟨r, 5, none⟩ (.int .i64 0)) r S ({ M with ops := M.ops + 1, n := 0 } : DM) := ⟨vl, vb, tl, tb, 0, h3, hL, hB, rfl⟩
      have hi := hO.inv
      have hc := rcrash_any hD ⟨hi.rise, hi.good, hi.mem, hi.isL, hi.isW, hi.fits, hi.top, Nat.le_succ_of_le hi.few⟩ (by show M.ops + 1 ≤ _; omega) (fun k hk => hS k (Nat.le_trans t3.size hk)) M.keep hO.keep
      rw [hb]
      have e1' : Hid (M.begun = ({ M with ops := M.ops + 1, n := 0 } : DM).crash M.keep) := e1
      clear e1 hb h1 h2 h3 hn hD
      go_enter Tryz.func90, Tryz.ntmps90
      go_wp2_with fail
      refine hc.mono ?_
      rintro e w' ⟨⟨v, rfl⟩, h5, t5⟩
      clear hc
      go_wp2
      go_ret
      exact ⟨rfl, by rw [e1'.out]; exact h5, t3.trans t5⟩
    · have hb : M.begins = true := by unfold DM.begins; exact decide_eq_true (by omega)
      have e1 : M.begun = { M with ops := M.ops + 1, n := M.n - 1 } := by unfold DM.begun; rw [if_neg (by omega)]
      have h3 := h2.setD 5 (.int .i64 (n0 - 1)) (blocks' := M.blocks) (off' := M.off) (ops' := M.ops + 1) (n' := n0 - 1) (keep' := M.keep) rfl
      have t3 := t2.setCell (p := ⟨r, 5, none⟩) (.inl h1.sR) (.int .i64 (n0 - 1))
      obtain ⟨-, -, -, -, -, e5, -⟩ := h3.cells
      have hD : Hid (RefAt ((w.setCell ⟨r, 4, none⟩ (.int .i64 ((M.ops : Int) + 1))).setCell ⟨r, 5, none⟩ (.int .i64 (n0 - 1))) r S M.begun) := by
        show RefAt _ _ _ _
        rw [e1]
        exact ⟨vl, vb, tl, tb, n0 - 1, h3, hL, hB, by show (n0 - 1).toNat = M.n - 1; omega⟩
      have hne : ¬ n0 - 1 = 0 := by omega
      have hnb2 : n0 ≤ 9223372036854775807 := by omega
      rw [hb]
      clear e1 hb h1 h2 h3 hn
      go_enter Tryz.func90, Tryz.ntmps90
      go_wp2
      go_ret
      exact ⟨rfl, hD.out, t3⟩
end
theorem elemF8 : Elem8 Tryz.prog 72 125 2 40 := elem8 Tryz.underlying72 (z := .agg #[.string ⟨#[]⟩, .slice none 0 0]) (by kernel_rfl) rfl (by decide)
theorem elemQ8 : Elem8 Tryz.prog 73 126 2 40 := elem8 Tryz.underlying73 (z := .agg #[.string ⟨#[]⟩, .slice none 0 0]) (by kernel_rfl) rfl (by decide)
abbrev RowQ (w : World) (B : Nat) (e : TypeId) (v : Value) (t : List Tr) : Prop := w.ownsRow B e 2 v t.length (trs t)
def ByQ (w : World) (S : Nat → Prop) (t : List Tr) : Prop := ∀ f ∈ t, Owns w 0 5 f.2.1 f.2.2 ∧ ∀ g, f.2.1.ownBlock = some g → S g
theorem ByQ.sub {w : World} {S : Nat → Prop} {t t' : List Tr} (h : ByQ w S t) (hs : ∀ f ∈ t', f ∈ t) : ByQ w S t' := fun f hf => h f (hs f hf)
theorem trs_ones {w : World} {S : Nat → Prop} : ∀ {t : List Tr}, ByQ w S t → ∀ u ∈ trs t, u.oneCell' = true
  | [], _, u, hu => by cases hu
  | f :: r, h, u, hu => by
    rw [trs] at hu
    rcases List.mem_cons.1 hu with rfl | hu
    · rfl
    rcases List.mem_cons.1 hu with rfl | hu
    · obtain ⟨p, c, e⟩ := (h f List.mem_cons_self).1.shape
      rw [e]; rfl
    · exact trs_ones (h.sub fun g hg => List.mem_cons_of_mem _ hg) u hu
theorem trs_take : ∀ (t : List Tr) (i : Nat), trs (t.take i) = (trs t).take (i * 2)
  | [], i => by simp [trs]
  | f :: r, 0 => rfl
  | f :: r, i + 1 => by
    rw [List.take_succ_cons, trs, trs_take r i, trs, show (i + 1) * 2 = i * 2 + 1 + 1 by omega, List.take_succ_cons, List.take_succ_cons]
theorem trs_drop : ∀ (t : List Tr) (i : Nat), trs (t.drop i) = (trs t).drop (i * 2)
  | [], i => by simp [trs]
  | f :: r, 0 => rfl
  | f :: r, i + 1 => by
    rw [List.drop_succ_cons, trs_drop r i, trs, show (i + 1) * 2 = i * 2 + 1 + 1 by omega, List.drop_succ_cons, List.drop_succ_cons]
theorem HasR.below {w w' : World} {size m : Nat} {v : Value} {xs : List Value} (h : HasR w size v m xs) (hb : Below w.heap.size w w') : HasR w' size v m xs := by
  obtain ⟨p, c, rfl, h1, h2, h3, h4⟩ := h
  refine ⟨p, c, rfl, h1, h2, h3, fun h0 => ?_⟩
  obtain ⟨b, o, rfl, hlt, hc⟩ := h4 h0
  exact ⟨b, o, rfl, Nat.lt_of_lt_of_le hlt hb.size, fun j u hj => (hb.cell (p := ⟨b, o + j, none⟩) hlt).trans (hc j u hj)⟩
theorem hasQ_head {w : World} {e : TypeId} {g c : Nat} {t : List Tr} (h : RowQ w 0 e (.slice (some ⟨g, 0, none⟩) t.length c) t) {i : Nat} (hi : i ≤ t.length) : HasR w 2 (.slice (some ⟨g, 0, none⟩) i c) i (trs (t.take i)) := by
  obtain ⟨p, c', e1, h1, h2, h3, h4⟩ := hasR_of_owns h
  simp only [Value.slice.injEq] at e1
  obtain ⟨rfl, -, rfl⟩ := e1
  refine ⟨_, _, rfl, by omega, (fun h => by cases h), by rw [trs_length, List.length_take]; omega, fun h0 => ?_⟩
  obtain ⟨b, o, e2, hlt, hc⟩ := h4 (by omega)
  simp only [Option.some.injEq, Addr.mk.injEq, and_true] at e2
  obtain ⟨rfl, rfl⟩ := e2
  refine ⟨g, 0, rfl, hlt, fun j u hj => hc j u ?_⟩
  rw [trs_take] at hj
  have hj2 : j < i * 2 := by
    have := (List.getElem?_eq_some_iff.1 hj).1
    rw [List.length_take] at this
    omega
  rwa [List.getElem?_take, if_pos hj2] at hj
theorem hasQ_rest {w : World} {e : TypeId} {g c : Nat} {t : List Tr} (h : RowQ w 0 e (.slice (some ⟨g, 0, none⟩) t.length c) t) {i : Nat} (hi : i < t.length) :
    ∃ p : Addr, (if c = i + 1 then some (⟨g, 0, none⟩ : Addr) else some ⟨g, (i + 1) * 2, none⟩) = some p ∧ HasR w 2 (.slice (some p) (t.length - (i + 1)) (c - (i + 1))) (t.length - (i + 1)) (trs (t.drop (i + 1))) := by
  obtain ⟨p, c', e1, h1, h2, h3, h4⟩ := hasR_of_owns h
  simp only [Value.slice.injEq] at e1
  obtain ⟨rfl, -, rfl⟩ := e1
  by_cases hc : c = i + 1
  · refine ⟨⟨g, 0, none⟩, by rw [if_pos hc], _, _, rfl, by omega, (fun h => by cases h), by rw [trs_length, List.length_drop], fun h0 => by omega⟩
  · refine ⟨⟨g, (i + 1) * 2, none⟩, by rw [if_neg hc], _, _, rfl, by omega, (fun h => by cases h), by rw [trs_length, List.length_drop], fun h0 => ?_⟩
    obtain ⟨b, o, e2, hlt, hcl⟩ := h4 (by omega)
    simp only [Option.some.injEq, Addr.mk.injEq, and_true] at e2
    obtain ⟨rfl, rfl⟩ := e2
    refine ⟨g, (i + 1) * 2, rfl, hlt, fun j u hj => ?_⟩
    rw [trs_drop, List.getElem?_drop] at hj
    have := hcl _ u hj
    rwa [Nat.zero_add] at this
theorem step_row8 {t e : TypeId} {size bytes : Nat} (E8 : Elem8 Tryz.prog t e size bytes) {ops : Array Oper} {o : Oper} {a : Act} {K : Act → World → Prop} {Q : Exit → Act → World → Prop} {E : Prop} (W : World) (hgd : o.guard = none) (s x : Operand)
    (ho : o.op = .call { callee := .builtin .append, args := #[s, x], argTypes := #[t, t] })
    {w6 : World} (hx : Below w6.heap.size w6 W) (v u : Value) (n m : Nat) (xs news : List Value) (hs : a.eval s = v) (hu : a.eval x = u) (hz : HasR w6 size u m news) (h1 : ∀ u ∈ news, u.oneCell' = true) (hown : W.ownsRow w6.heap.size e size v n xs) (hlen : n + m ≤ 1099511627776) (hby : (n + m) * bytes ≤ 140737488355328)
    (h : ∀ v' w', w'.ownsRow w6.heap.size e size v' (n + m) (xs ++ news) → Below w6.heap.size w6 w' → K (a.put o.dst v') w') :
    if Region.wanted o (yielded ops a.tmps) = true then Oper.wp Tryz.prog o a W K Q else E := by
  have hw : Region.wanted o (yielded ops a.tmps) = true := by simp [Region.wanted, hgd]
  rw [if_pos hw]
  obtain ⟨v', w', hr, h3, h2, _⟩ := run_row E8 W o.type w6.heap.size v u n m xs news (hz.below hx) h1 hown hlen hby hx.size
  unfold Oper.wp execOp
  simp only [ho, resolve, invoke, builtin, Sem.run_bind, Sem.run_pure, Result.andThen_ok, List.map_toArray, List.map_cons, List.map_nil, hs, hu, hr]
  exact h v' w' h3 (below_grown8 hx hown h2 (Nat.le_refl _) hx.size)
theorem row_none8 (w : World) (e : TypeId) (size : Nat) : (w.alloc (.cells #[] e)).drew.ownsRow w.heap.size e size (.slice (some ⟨w.heap.size, 0, none⟩) 0 0) 0 [] := ⟨by simp, .inr ⟨w.heap.size, 0, #[], rfl, Nat.le_refl _, heap_alloc_new w _, Nat.le_refl _, Nat.zero_le _, by simp, by simp⟩⟩
theorem row_none9 (w W : World) (e : TypeId) (size : Nat) (h : w.heap.size ≤ W.heap.size) : (W.alloc (.cells #[] e)).ownsRow w.heap.size e size (.slice (some ⟨W.heap.size, 0, none⟩) 0 0) 0 [] := ⟨by simp, .inr ⟨W.heap.size, 0, #[], rfl, h, heap_alloc_new W _, Nat.le_refl _, Nat.zero_le _, by simp, by simp⟩⟩
section
variable {w w' : World} {r : Nat} {S : Nat → Prop} {vl vb : Value} {tl tb : List Tr} {blocks : Nat} {off : Bool} {ops : Nat} {n keep : Int}
theorem RefLies.swapL (h : RefLies w r S vl vb tl tb blocks off ops n keep) {v : Value} {t : List Tr} (hrow : RowQ w 0 125 v t) (hs : ∀ g, v.ownBlock = some g → S g) (hby : ByQ w S t) : RefLies (w.setCell ⟨r, 1, none⟩ v) r S v vb t tb blocks off ops n keep := by
  obtain ⟨-, q2, -, q4⟩ := h.apart
  have q1 : v.ownBlock ≠ some r := row_apart hrow h.blk (by decide)
  have hk : ∀ (u : Value), u.ownBlock ≠ some r → ∀ g, u.ownBlock = some g → (w.setCell ⟨r, 1, none⟩ v).heap[g]? = w.heap[g]? := fun u hu g hg => Below.heap_setCell _ _ _ _ (fun e => hu (by rw [hg]; exact congrArg some e))
  refine ⟨?_, row_same hrow (hk _ q1), row_same h.rowB (hk _ q2), h.sR, hs, h.sB, fun f hf => ⟨row_same (hby f hf).1 (hk _ (row_apart (hby f hf).1 h.blk (by decide))), (hby f hf).2⟩, fun f hf => ⟨row_same (h.byB f hf).1 (hk _ (q4 f hf)), (h.byB f hf).2⟩⟩
  have hb := h.blk
  simp [World.setCell, Array.getElem?_modify, hb]
theorem RefLies.growB (h : RefLies w r S vl vb tl tb blocks off ops n keep) (hg : w.grownBy w' vb.ownBlock) {v : Value} {t : List Tr} (hrow : RowQ w' 0 126 v t) (hs : ∀ g, v.ownBlock = some g → S g) (hby : ByQ w' S t) : RefLies (w'.setCell ⟨r, 2, none⟩ v) r S vl v tl t blocks off ops n keep := by
  obtain ⟨q1, q2, q3, -⟩ := h.apart
  have hblk : w'.heap[r]? = _ := (hg.block r h.lt fun e => q2 e.symm).trans h.blk
  have q5 : v.ownBlock ≠ some r := row_apart hrow hblk (by decide)
  have hk : ∀ (u : Value), u.ownBlock ≠ some r → ∀ g, u.ownBlock = some g → (w'.setCell ⟨r, 2, none⟩ v).heap[g]? = w'.heap[g]? := fun u hu g hg => Below.heap_setCell _ _ _ _ (fun e => hu (by rw [hg]; exact congrArg some e))
  have hL : ∀ g, vl.ownBlock = some g → w'.heap[g]? = w.heap[g]? := fun g hg2 => hg.block g (World.ownsRow.lt h.rowL g hg2).2 fun e => rowsQ_apart h.rowB h.rowL (by decide) e.symm hg2
  have hF : ∀ f ∈ tl, ∀ g, f.2.1.ownBlock = some g → w'.heap[g]? = w.heap[g]? := fun f hf g hg2 => hg.block g (World.ownsRow.lt (h.byL f hf).1 g hg2).2 fun e => rowsQ_apart h.rowB (h.byL f hf).1 (by decide) e.symm hg2
  refine ⟨?_, row_same (row_same h.rowL hL) (hk _ q1), row_same hrow (hk _ q5), h.sR, h.sL, hs, fun f hf => ⟨row_same (row_same (h.byL f hf).1 (hF f hf)) (hk _ (q3 f hf)), (h.byL f hf).2⟩, fun f hf => ⟨row_same (hby f hf).1 (hk _ (row_apart (hby f hf).1 hblk (by decide))), (hby f hf).2⟩⟩
  simp [World.setCell, Array.getElem?_modify, hblk]
theorem grown_refl8 (w : World) (o : Option Nat) : w.grownBy w o := ⟨rfl, rfl, rfl, Nat.le_refl _, fun _ _ _ => rfl⟩
theorem RefLies.swapB (h : RefLies w r S vl vb tl tb blocks off ops n keep) {v : Value} {t : List Tr} (hrow : RowQ w 0 126 v t) (hs : ∀ g, v.ownBlock = some g → S g) (hby : ByQ w S t) : RefLies (w.setCell ⟨r, 2, none⟩ v) r S vl v tl t blocks off ops n keep := h.growB (grown_refl8 _ _) hrow hs hby
end
theorem erase_filter8 : ∀ {l : List (ByteArray × List Int)} {i : Nat} {x : ByteArray}, (nms l).Nodup → (l[i]?).map Prod.fst = some x → l.take i ++ l.drop (i + 1) = l.filter fun f => decide (f.1 ≠ x)
  | [], i, x, _, h => by simp at h
  | f :: l, 0, x, hn, h => by
    have hd := List.nodup_cons.1 (by exact hn : (f.1 :: nms l).Nodup)
    have hx : f.1 = x := by simpa using h
    subst hx
    rw [List.filter_cons_of_neg (by simp)]
    show l = _
    refine (List.filter_eq_self.2 fun g hg => ?_).symm
    exact decide_eq_true fun e => hd.1 (by rw [← e]; exact List.mem_map.2 ⟨g, hg, rfl⟩)
  | f :: l, i + 1, x, hn, h => by
    have hd := List.nodup_cons.1 (by exact hn : (f.1 :: nms l).Nodup)
    have h' : (l[i]?).map Prod.fst = some x := by simpa using h
    have hx : x ∈ nms l := by
      obtain ⟨g, hg, e⟩ := Option.map_eq_some_iff.1 h'
      rw [← e]
      exact List.mem_map.2 ⟨g, List.mem_of_getElem? hg, rfl⟩
    have hne : f.1 ≠ x := fun e => hd.1 (by rw [e]; exact hx)
    rw [List.filter_cons_of_pos (by simpa using hne), List.take_succ_cons, List.drop_succ_cons, List.cons_append, erase_filter8 hd.2 h']
theorem trM_append (s t : List Tr) : trM (s ++ t) = trM s ++ trM t := List.map_append
theorem trM_take (t : List Tr) (i : Nat) : trM (t.take i) = (trM t).take i := List.map_take
theorem trM_drop (t : List Tr) (i : Nat) : trM (t.drop i) = (trM t).drop i := List.map_drop
theorem trM_filter (t : List Tr) (x : ByteArray) : trM (t.filter fun f => decide (f.1 ≠ x)) = (trM t).filter fun f => decide (f.1 ≠ x) := by
  unfold trM
  rw [List.filter_map]
  rfl
theorem trM_at {t : List Tr} {i : Nat} (h : i < t.length) : ((trM t)[i]?).map Prod.fst = some (t.getD i default).1 := by
  unfold trM
  rw [List.getElem?_map, List.getElem?_eq_getElem h, List.getD_eq_getElem?_getD, List.getElem?_eq_getElem h]
  rfl
theorem take_filter8 {t : List Tr} {j : Nat} (h : j < t.length) (x : ByteArray) : (t.take (j + 1)).filter (fun f => decide (f.1 ≠ x)) = (t.take j).filter (fun f => decide (f.1 ≠ x)) ++ if (t.getD j default).1 = x then [] else [t.getD j default] := by
  rw [List.take_succ_eq_append_getElem h, List.filter_append, List.getD_eq_getElem?_getD, List.getElem?_eq_getElem h]
  congr 1
  by_cases hx : (t[j]).1 = x
  · rw [List.filter_cons_of_neg (by simpa using hx), List.filter_nil]
    exact (if_pos hx).symm
  · rw [List.filter_cons_of_pos (by simpa using hx), List.filter_nil]
    exact (if_neg hx).symm
section
variable {w : World} {r : Nat} {S : Nat → Prop} {vl vb : Value} {tl tb : List Tr} {blocks : Nat} {off : Bool} {ops : Nat} {n keep : Int}
set_option maxRecDepth 10000 in
set_option maxHeartbeats 4000000 in
theorem rgone_any (h : RefLies w r S vl vb tl tb blocks off ops n keep) (hS : ∀ k, w.heap.size ≤ k → S k) {i : Nat} (hi : i < tl.length) (hnd : (nms (trM tl)).Nodup) (hl : tl.length ≤ 16777216) (hlb : tb.length ≤ 1099511627776) {x : ByteArray} (hx : (tl.getD i default).1 = x) :
    Calls Tryz.prog 91 #[.pointer (some ⟨r, 0, none⟩), .int .i64 (i : Nat)] w fun e w' => (∃ v, e = .returned v) ∧ (∃ vl' vb' tl' tb', RefLies w' r S vl' vb' tl' tb' blocks off ops n keep ∧ trM tl' = ((trM tl).filter fun f => decide (f.1 ≠ x)) ∧ trM tb' = ((trM tb).filter fun f => decide (f.1 ≠ x))) ∧ Turn S w w' := by
  obtain ⟨-, c1, -⟩ := h.cells
  have hlt := h.lt
  obtain ⟨g, c, rfl, hc, hg, a0, -⟩ := tr_at h.rowL hi
  have hml : Hid (trM (tl.take i ++ tl.drop (i + 1)) = (trM tl).filter fun f => decide (f.1 ≠ x)) := by
    show _ = _
    rw [trM_append, trM_take, trM_drop]
    exact erase_filter8 hnd (by rw [trM_at hi, hx])
  rw [hx] at a0
  have hcut1 := hasQ_head h.rowL (i := i) (by omega)
  obtain ⟨p2, hif, hcut2⟩ := hasQ_rest h.rowL hi
  have one1 := trs_ones (ByQ.sub h.byL fun f hf => List.mem_of_mem_take hf : ByQ w S (tl.take i))
  have one2 := trs_ones (ByQ.sub h.byL fun f hf => List.mem_of_mem_drop hf : ByQ w S (tl.drop (i + 1)))
  have hnew : Hid (∀ w8 v8, w8.ownsRow w.heap.size 125 2 v8 (0 + i + (tl.length - (i + 1))) ([] ++ trs (tl.take i) ++ trs (tl.drop (i + 1))) → Below w.heap.size w w8 →
      RefLies (w8.setCell ⟨r, 1, none⟩ v8) r S v8 vb (tl.take i ++ tl.drop (i + 1)) tb blocks off ops n keep ∧ Turn S w (w8.setCell ⟨r, 1, none⟩ v8) ∧ w8.frozen? ⟨r, 1, none⟩ = false ∧ w8.cell? ⟨r, 1, none⟩ = some (.slice (some ⟨g, 0, none⟩) tl.length c)) := by
    intro w8 v8 ho hb
    have h2 := h.below hb
    obtain ⟨-, d1, -⟩ := h2.cells
    have hlen : (tl.take i ++ tl.drop (i + 1)).length = 0 + i + (tl.length - (i + 1)) := by rw [List.length_append, List.length_take, List.length_drop]; omega
    have hrow : RowQ w8 w.heap.size 125 v8 (tl.take i ++ tl.drop (i + 1)) := by
      unfold RowQ
      rw [hlen, trs_append]
      exact ho
    refine ⟨h2.swapL (row_base hrow (Nat.zero_le _)) (fun k hk => hS k (World.ownsRow.lt hrow k hk).1) (ByQ.sub h2.byL fun f hf => (List.mem_append.1 hf).elim List.mem_of_mem_take List.mem_of_mem_drop), (Turn.of_below hb (Nat.le_refl _)).setCell (p := ⟨r, 1, none⟩) (.inl h.sR) _, h2.free 1, d1⟩
  have hi1 : (i : Int) < (tl.length : Int) := by omega
  have hqc : i ≤ c := by omega
  have hq1 : i + 1 ≤ tl.length := by omega
  have hq2 : (i : Int) + 1 ≤ (tl.length : Int) := by omega
  have hq3 : ((i : Int) + 1).toNat = i + 1 := by omega
  have hq4 : (0 : Int) ≤ (i : Int) + 1 := by omega
  have hwq : IntKind.i64.wrap ((i : Int) + 1) = (i : Int) + 1 := by rw [IntKind.wrap_i64]; omega
  have hl1 : 0 + i ≤ 1099511627776 := by omega
  have hl2 : (0 + i) * 40 ≤ 140737488355328 := by omega
  have hl3 : 0 + i + (tl.length - (i + 1)) ≤ 1099511627776 := by omega
  have hl4 : (0 + i + (tl.length - (i + 1))) * 40 ≤ 140737488355328 := by omega
  clear h hnd hx
  go_enter Tryz.func91, Tryz.ntmps91
  go_wp2_with fail
  apply once_proved9
  case main =>
    intro key
    go_region_law (first
      | (refine step_row8 elemF8 _ rfl (.tmp 17) (.tmp 23) rfl (w6 := w) (by first | exact ext_alloc8 (ext_drew8 _) _ | exact ext_on8 (ext_alloc8 (Below.refl _ _) _) | exact ext_alloc8 (Below.refl _ _) _) _ _ 0 i [] _ rfl rfl hcut1 one1 (by first | exact row_none9 w w.drew _ _ (Nat.le_refl _) | exact row_none9 w w _ _ (Nat.le_refl _) | exact row_none8 _ _ _) hl1 hl2 ?_; intro v7 w7 ho7 hb7; have b1 := (hb7.cell (p := ⟨r, 1, none⟩) hlt).trans c1)
      | (refine step_row8 elemF8 _ rfl (.tmp 24) (.tmp 31) rfl hb7 _ _ (0 + i) (tl.length - (i + 1)) _ _ rfl rfl hcut2 one2 ho7 hl3 hl4 ?_; intro v8 w8 ho8 hb8; have hst := hnew.out w8 _ ho8 hb8; obtain ⟨p8, q8, rfl⟩ := writes_shape ho8; obtain ⟨HR, HT, f18, c18⟩ := hst; have HRR : Hid _ := HR; clear HR))
    all_goals
      revert v7 w7 ho7 hb7 b1 p8 q8 w8
      exact key.out
  case proof =>
    intro v7 w7 ho7 hb7 b1 w8 hb8 p8 q8 ho8 HT f18 c18 HRR
    have h2 := HRR.out
    rw [Nat.zero_add] at h2 HT
    clear HRR hnew ho7 hb7 b1 ho8 hb8 f18 c18 hif hcut1 hcut2 one1 one2 hl1 hl2 hl3 hl4 hq1 hq2 hq3 hq4 hwq hqc c1 a0
    generalize w8.setCell ⟨r, 1, none⟩ (.slice p8 (i + (tl.length - (i + 1))) q8) = W at *
    obtain ⟨-, -, c2, -⟩ := h2.cells
    obtain ⟨pb, cb, rfl, hcb⟩ := tr_shape h2.rowB
    have hltW := h2.lt
    have hS2 : Hid (∀ k, W.heap.size ≤ k → S k) := fun k hk => hS k (Nat.le_trans HT.size hk)
    have HT' : Hid (Turn S w W) := HT
    clear hS HT
    go_wp2
    go_loopw [40, 5] (fun t s wr => ∃ (j : Nat) (tq : List Tr), j ≤ tb.length ∧ t = .int .i64 (j : Nat) ∧ Hid (tq = (tb.take j).filter fun f => decide (f.1 ≠ x)) ∧ RowQ wr W.heap.size 126 s tq ∧ Below W.heap.size W wr) (fun t _ _ => tb.length - (intOf t).toNat)
    case atStart => exact ⟨0, [], by omega, rfl, rfl, World.ownsRow_nil _ _ _ _, Below.refl _ _⟩
    case round =>
      clear c2
      obtain ⟨j, tq, hj, rfl, htq, ho, hb⟩ := hrel
      by_cases hjl : j < tb.length
      · obtain ⟨gb, c', e, _, hgb, d0, d1⟩ := tr_at (h2.below hb).rowB hjl
        simp only [Value.slice.injEq] at e
        obtain ⟨rfl, -, rfl⟩ := e
        obtain ⟨pu, cu, hu⟩ := (h2.byB _ (getD_mem8 hjl)).1.shape
        have htk := take_filter8 hjl x
        rw [← htq.out] at htk
        have hq : tq.length ≤ j := by
          rw [htq.out]
          refine Nat.le_trans (List.length_filter_le _ _) ?_
          rw [List.length_take]; omega
        generalize tb.getD j default = Y at *
        obtain ⟨y, uy, by_⟩ := Y
        dsimp only at hu d0 d1 htk
        subst hu
        have htk' : Hid _ := htk
        clear htk
        generalize by_.length = lu at *
        by_cases hxy : y = x
        · subst hxy
          have hsame : Hid (tq = (tb.take (j + 1)).filter fun f => decide (f.1 ≠ y)) := by show _ = _; rw [htk'.out, if_pos rfl, List.append_nil]
          have hfin : Hid (RowQ (wr.alloc (.cells #[.string y, .slice pu lu cu] 126)) W.heap.size 126 u5 tq) :=
            row_same ho fun k hk => Below.heap_alloc _ _ _ (World.ownsRow.lt ho k hk).2
          obtain ⟨po, co, rfl⟩ := writes_shape ho
          clear ho htk'
          go_wp2
          go_roundw
          case rel => exact ⟨j + 1, tq, by omega, by simp, hsame, hfin.out, hb.alloc hb.size _⟩
          case measure => simp only [intOf]; omega
        · have hne := str_ne8 hxy
          have hb2 := (hb.alloc hb.size (.cells #[.string y, .slice pu lu cu] 126)).alloc (Nat.le_trans hb.size (by simp)) (.cells #[.string y, .slice pu lu cu] 126)
          have hal := ((Below.refl wr.heap.size wr).alloc (Nat.le_refl _) (.cells #[.string y, .slice pu lu cu] 126)).alloc (by simp) (.cells #[.string y, .slice pu lu cu] 126)
          have ho2 := row_same (w' := (wr.alloc (.cells #[.string y, .slice pu lu cu] 126)).alloc (.cells #[.string y, .slice pu lu cu] 126)) ho fun k hk => hal.block k (World.ownsRow.lt ho k hk).2
          have hR := hasR_lit (w := (wr.alloc (.cells #[.string y, .slice pu lu cu] 126)).alloc (.cells #[.string y, .slice pu lu cu] 126)) (k := wr.heap.size + 1) (size := 2) (xs := [.string y, .slice pu lu cu]) (e := 126) (f := (0, 0)) (by
            show ((wr.heap.push _).push _)[wr.heap.size + 1]? = _
            rw [show wr.heap.size + 1 = (wr.heap.push (Obj.cells #[.string y, .slice pu lu cu] 126)).size from (Array.size_push _).symm, Array.getElem?_push_size]) 1 1 rfl (Nat.le_refl _)
          obtain ⟨po, co, rfl⟩ := writes_shape ho
          have hq1 : tq.length + 1 ≤ 1099511627776 := by omega
          have hq2 : (tq.length + 1) * 40 ≤ 140737488355328 := by omega
          have hones : ∀ u ∈ [Value.string y, .slice pu lu cu], u.oneCell' = true := by intro z hz; simp at hz; rcases hz with rfl | rfl <;> rfl
          clear ho hq hxy
          go_wp2_with (at_builtin; refine ap_row elemQ8 _ rfl _ _ rfl W.heap.size _ _ tq.length 1 (trs tq) [.string y, .slice pu lu cu] rfl rfl hR hones ho2 hq1 hq2 hb2.size ?_; intro v2 w2 hown2 hgrow2 hwh2; refine Halt8.out ?_)
          have HB3 : Hid (Below W.heap.size W w2) := hb2.trans ((Below.refl _ _).grown hgrow2 hb2.size fun k hk => (World.ownsRow.lt ho2 k hk).1)
          have hsame : Hid (tq ++ [(y, .slice pu lu cu, by_)] = (tb.take (j + 1)).filter fun f => decide (f.1 ≠ x)) := by show _ = _; rw [htk'.out, if_neg (fun e => by rw [e] at hne; simp at hne)]
          have HO3 : Hid (RowQ w2 W.heap.size 126 v2 (tq ++ [(y, .slice pu lu cu, by_)])) := by
            show RowQ _ _ _ _ _
            unfold RowQ
            rw [List.length_append, trs_append]
            exact hown2
          obtain ⟨p3, c3, rfl⟩ := writes_shape hown2
          clear hgrow2 hwh2 hown2 hR ho2 hb2 hal htk'
          constructor
          go_wp2
          go_roundw
          case rel => exact ⟨j + 1, _, by omega, by simp, hsame, HO3.out, HB3.out⟩
          case measure => simp only [intOf]; omega
      · obtain rfl : j = tb.length := by omega
        have htq' : Hid (trM tq = (trM tb).filter fun f => decide (f.1 ≠ x)) := by
          show _ = _
          rw [htq.out, List.take_length, trM_filter]
        have hsub : ∀ f ∈ tq, f ∈ tb := fun f hf => by
          rw [htq.out, List.take_length] at hf
          exact (List.mem_filter.1 hf).1
        have h3 := h2.below hb
        obtain ⟨-, -, d2, -⟩ := h3.cells
        have f2 := h3.free 2
        have h4 := h3.swapB (row_base ho (Nat.zero_le _)) (fun k hk => hS2.out k (World.ownsRow.lt ho k hk).1) (ByQ.sub h3.byB hsub)
        obtain ⟨po, co, rfl⟩ := writes_shape ho
        have t4 := (HT'.out.trans (Turn.of_below hb (Nat.le_refl _))).setCell (p := ⟨r, 2, none⟩) (.inl h3.sR) (.slice po tq.length co)
        have h4' : Hid _ := h4
        clear ho h3 h2 h4 hsub htq
        go_wp2
        go_end0
        exact ⟨⟨_, rfl⟩, ⟨_, _, _, _, h4'.out, hml.out, htq'.out⟩, t4⟩
end
def insT (F : Tr) : List Tr → List Tr
  | [] => [F]
  | f :: r => if ltT F.1 f.1 = true then F :: f :: r else f :: insT F r
theorem trM_ins (F : Tr) : ∀ t : List Tr, trM (insT F t) = insF F.1 F.2.2 (trM t)
  | [] => rfl
  | f :: r => by
    have ih := trM_ins F r
    show trM (if ltT F.1 f.1 = true then F :: f :: r else f :: insT F r) = if ltT F.1 f.1 = true then (F.1, F.2.2) :: (f.1, f.2.2) :: trM r else (f.1, f.2.2) :: insF F.1 F.2.2 (trM r)
    split
    · rfl
    · show (f.1, f.2.2) :: trM (insT F r) = _
      rw [ih]
def anyT (F : Tr) (t : List Tr) : Bool := t.any fun f => ltT F.1 f.1
theorem anyT_snoc (F : Tr) (t : List Tr) (f : Tr) : anyT F (t ++ [f]) = (anyT F t || ltT F.1 f.1) := by simp [anyT]
theorem insT_yes {F : Tr} : ∀ {t : List Tr} (s : List Tr), anyT F t = true → insT F (t ++ s) = insT F t ++ s
  | [], s, h => by simp [anyT] at h
  | f :: r, s, h => by
    rw [List.cons_append, insT, insT]
    by_cases hf : ltT F.1 f.1 = true
    · rw [if_pos hf, if_pos hf]; rfl
    · rw [if_neg hf, if_neg hf, insT_yes (t := r) s (by simpa [anyT, hf] using h)]; rfl
theorem insT_no {F : Tr} : ∀ {t : List Tr} (s : List Tr), anyT F t = false → insT F (t ++ s) = t ++ insT F s
  | [], s, h => rfl
  | f :: r, s, h => by
    have h' : ltT F.1 f.1 = false ∧ anyT F r = false := by simpa [anyT] using h
    rw [List.cons_append, insT, if_neg (by rw [h'.1]; decide), insT_no (t := r) s h'.2]; rfl
def halfT (F : Tr) (t : List Tr) : List Tr := if anyT F t = true then insT F t else t
theorem halfT_yes {F : Tr} {t : List Tr} {f : Tr} (h : anyT F t = true) : halfT F t ++ [f] = halfT F (t ++ [f]) := by
  unfold halfT
  rw [anyT_snoc, h, if_pos rfl, Bool.true_or, if_pos rfl, insT_yes _ h]
theorem halfT_in {F : Tr} {t : List Tr} {f : Tr} (h : anyT F t = false) (hf : ltT F.1 f.1 = true) : (halfT F t ++ [F]) ++ [f] = halfT F (t ++ [f]) := by
  unfold halfT
  rw [anyT_snoc, h, if_neg (by decide), hf, Bool.false_or, if_pos rfl, insT_no _ h, insT, if_pos hf, List.append_assoc]
  rfl
theorem halfT_on {F : Tr} {t : List Tr} {f : Tr} (h : anyT F t = false) (hf : ltT F.1 f.1 = false) : halfT F t ++ [f] = halfT F (t ++ [f]) := by
  unfold halfT
  rw [anyT_snoc, h, if_neg (by decide), hf, Bool.false_or, if_neg (by decide)]
theorem halfT_end {F : Tr} {t : List Tr} (h : anyT F t = false) : halfT F t ++ [F] = insT F t := by
  unfold halfT
  have := insT_no (F := F) (t := t) [] h
  rw [List.append_nil] at this
  rw [h, if_neg (by decide), this]
  rfl
theorem halfT_done {F : Tr} {t : List Tr} (h : anyT F t = true) : halfT F t = insT F t := by
  unfold halfT
  rw [if_pos h]
theorem insT_mem {F : Tr} : ∀ {t : List Tr} {f : Tr}, f ∈ insT F t → f = F ∨ f ∈ t
  | [], f, h => .inl (List.mem_singleton.1 h)
  | g :: r, f, h => by
    rw [insT] at h
    split at h
    · rcases List.mem_cons.1 h with h | h
      · exact .inl h
      · exact .inr h
    · rcases List.mem_cons.1 h with h | h
      · exact .inr (by rw [h]; exact List.mem_cons_self)
      · exact (insT_mem h).imp id fun h => List.mem_cons_of_mem _ h
theorem insT_len (F : Tr) : ∀ t : List Tr, (insT F t).length = t.length + 1
  | [] => rfl
  | f :: r => by
    rw [insT]
    split
    · rfl
    · rw [List.length_cons, insT_len F r, List.length_cons]
theorem halfT_len (F : Tr) (t : List Tr) : (halfT F t).length ≤ t.length + 1 := by
  unfold halfT
  split
  · rw [insT_len]; omega
  · omega
theorem take_snocT {t : List Tr} {j : Nat} (h : j < t.length) : t.take (j + 1) = t.take j ++ [t.getD j default] := by
  rw [List.take_succ_eq_append_getElem h, List.getD_eq_getElem?_getD, List.getElem?_eq_getElem h]
  rfl
theorem gtr_any8 (t : TypeId) (y x : ByteArray) (W : World) : (binOp .gtr t (.string y) (.string x)).run Tryz.prog W = .ok (.bool (ltT x y)) W := by
  have h : (!(Op.bytesLess y.toList x.toList || y.toList == x.toList)) = ltT x y := by
    cases h1 : ltT x y with
    | true =>
      have h2 : Op.bytesLess y.toList x.toList = false := ltT_asymm h1
      rw [h2, str_ne8 fun e => by rw [e, ltT_irrefl] at h1; cases h1]
      rfl
    | false =>
      cases h2 : ltT y x with
      | true =>
        have h3 : Op.bytesLess y.toList x.toList = true := h2
        rw [h3]; rfl
      | false =>
        rw [ltT_tri h2 h1]; simp
  rw [← h]
  simp [binOp, Op.stringOp]
theorem RowQ.snoc {w : World} {B : Nat} {e : TypeId} {v : Value} {t : List Tr} {f : Tr} (h : w.ownsRow B e 2 v (t.length + 1) (trs t ++ [.string f.1, f.2.1])) : RowQ w B e v (t ++ [f]) := by
  unfold RowQ
  rw [List.length_append, trs_append]
  exact h
theorem heap_two8 (w : World) (o o' : Obj) : ((w.alloc o).alloc o').heap[w.heap.size + 1]? = some o' := by
  show ((w.heap.push o).push o')[w.heap.size + 1]? = _
  rw [show w.heap.size + 1 = (w.heap.push o).size from (Array.size_push _).symm, Array.getElem?_push_size]
section
variable {w : World} {r : Nat} {S : Nat → Prop} {vl vb : Value} {tl tb : List Tr} {blocks : Nat} {off : Bool} {ops : Nat} {n keep : Int}
set_option maxRecDepth 10000 in
set_option maxHeartbeats 4000000 in
theorem rput_any (h : RefLies w r S vl vb tl tb blocks off ops n keep) (hS : ∀ k, w.heap.size ≤ k → S k) {x : ByteArray} {v : Value} {bs : List Int} (hv : Owns w 0 5 v bs) (hvS : ∀ g, v.ownBlock = some g → S g) (hl : tl.length ≤ 16777216) :
    Calls Tryz.prog 93 #[.pointer (some ⟨r, 0, none⟩), .agg #[.string x, v]] w fun e w' => (∃ v, e = .returned v) ∧ (∃ vl', RefLies w' r S vl' vb (insT (x, v, bs) tl) tb blocks off ops n keep) ∧ Turn S w w' := by
  obtain ⟨-, c1, -⟩ := h.cells
  have hlt := h.lt
  obtain ⟨p, c, rfl, hc⟩ := tr_shape h.rowL
  obtain ⟨pv, cv, e⟩ := hv.shape
  obtain ⟨F, hF⟩ : ∃ F : Tr, F = (x, v, bs) := ⟨_, rfl⟩
  rw [← hF]
  have hF' : Hid (F = (x, v, bs)) := hF
  have hv' : Hid (Owns w 0 5 v bs) := hv
  have hS' : Hid (∀ k, w.heap.size ≤ k → S k) := hS
  have hvS' : Hid (∀ g, v.ownBlock = some g → S g) := hvS
  have ev : Hid (v = .slice pv bs.length cv) := e
  rw [e]
  clear hF hv e hS hvS
  have hx : Hid (x = F.1) := by show _ = _; rw [hF'.out]
  have hvF : Hid (F.2.1 = .slice pv bs.length cv) := by show _ = _; rw [hF'.out]; exact ev.out
  have hbA : Below w.heap.size w (w.alloc (.cells #[.string x, .slice pv bs.length cv] 125)) := (Below.refl _ _).alloc (Nat.le_refl _) _
  have hA := heap_alloc_new w (.cells #[.string x, .slice pv bs.length cv] 125)
  have hsz : w.heap.size < (w.alloc (.cells #[.string x, .slice pv bs.length cv] 125)).heap.size := by simp
  have h1 := h.below hbA
  have hend : Hid (∀ wr s, Below (w.alloc (.cells #[.string x, .slice pv bs.length cv] 125)).heap.size (w.alloc (.cells #[.string x, .slice pv bs.length cv] 125)) wr → RowQ wr (w.alloc (.cells #[.string x, .slice pv bs.length cv] 125)).heap.size 125 s (insT F tl) →
      (∃ v1, wr.cell? ⟨r, 1, none⟩ = some v1) ∧ wr.frozen? ⟨r, 1, none⟩ = false ∧ RefLies (wr.setCell ⟨r, 1, none⟩ s) r S s vb (insT F tl) tb blocks off ops n keep ∧ Turn S w (wr.setCell ⟨r, 1, none⟩ s)) := by
    intro wr s hb hrow
    have h2 := h1.below hb
    obtain ⟨-, d1, -⟩ := h2.cells
    have hb2 := hbA.trans (hb.mono hbA.size)
    refine ⟨⟨_, d1⟩, h2.free 1, h2.swapL (row_base hrow (Nat.zero_le _)) (fun k hk => hS'.out k (Nat.le_trans hbA.size (World.ownsRow.lt hrow k hk).1)) (fun f hf => ?_), (Turn.of_below hb2 (Nat.le_refl _)).setCell (p := ⟨r, 1, none⟩) (.inl h.sR) _⟩
    rcases insT_mem hf with rfl | hf
    · rw [hF'.out]
      exact ⟨hv'.out.below hb2 (Nat.le_refl _), hvS'.out⟩
    · exact h2.byL f hf
  go_enter Tryz.func93, Tryz.ntmps93
  go_wp2
  generalize hW : w.alloc (.cells #[.string x, .slice pv bs.length cv] 125) = W at *
  have hW' : Hid _ := hW
  clear hW
  generalize w.heap.size = bx at *
  go_loopw [13, 4, 5] (fun t s d wr => ∃ (j : Nat) (tq : List Tr) (b : Bool), j ≤ tl.length ∧ t = .int .i64 (j : Nat) ∧ d = .bool b ∧ Hid (b = anyT F (tl.take j)) ∧ Hid (tq = halfT F (tl.take j)) ∧ RowQ wr W.heap.size 125 s tq ∧ Below W.heap.size W wr) (fun t _ _ _ => tl.length - (intOf t).toNat)
  case atStart => exact ⟨0, [], false, by omega, rfl, rfl, rfl, rfl, World.ownsRow_nil _ _ _ _, Below.refl _ _⟩
  case round =>
    obtain ⟨j, tq, b, hj, rfl, rfl, hbj, htq, ho, hb⟩ := hrel
    clear c1
    by_cases hjl : j < tl.length
    · obtain ⟨g, c', e, _, hg, d0, d1⟩ := tr_at (h1.below hb).rowL hjl
      simp only [Value.slice.injEq] at e
      obtain ⟨rfl, -, rfl⟩ := e
      obtain ⟨pu, cu, hu⟩ := (h1.byL _ (getD_mem8 hjl)).1.shape
      have htk := take_snocT hjl
      have hX : wr.heap[bx]? = _ := (hb.block bx hsz).trans hA
      have hbx : bx < wr.heap.size := Nat.lt_of_lt_of_le hsz hb.size
      have e0 : wr.cell? ⟨bx, 0, none⟩ = some (.string x) := by simp [World.cell?, hX]
      have e1 : wr.cell? ⟨bx, 1, none⟩ = some (.slice pv bs.length cv) := by simp [World.cell?, hX]
      have hq : tq.length ≤ 16777217 := by
        rw [htq.out]
        have := halfT_len F (tl.take j)
        rw [List.length_take] at this
        omega
      generalize tl.getD j default = Y at *
      obtain ⟨y, uy, by_⟩ := Y
      dsimp only at hu d0 d1 htk
      subst hu
      have htk' : Hid _ := htk
      clear htk
      have hYc : Hid (trs [((y, .slice pu by_.length cu, by_) : Tr)] = [.string y, .slice pu by_.length cu]) := rfl
      generalize hlu : by_.length = lu at *
      have hlu' : Hid (by_.length = lu) := hlu
      clear hlu
      have hb2 := hb.alloc hb.size (.cells #[.string y, .slice pu lu cu] 125)
      have ho2 := row_same (w' := wr.alloc (.cells #[.string y, .slice pu lu cu] 125)) ho fun k hk => Below.heap_alloc _ _ _ (World.ownsRow.lt ho k hk).2
      have hA2 := heap_alloc_new wr (.cells #[.string y, .slice pu lu cu] 125)
      obtain ⟨po, co, rfl⟩ := writes_shape ho
      have hq1 : tq.length + 1 ≤ 1099511627776 := by omega
      have hq2 : (tq.length + 1) * 40 ≤ 140737488355328 := by omega
      have hnx : ∀ k, (Value.slice po tq.length co).ownBlock = some k → k < wr.heap.size := fun k hk => (World.ownsRow.lt ho k hk).2
      have hnx' : Hid (∀ k, (Value.slice po tq.length co).ownBlock = some k → k < wr.heap.size) := hnx
      clear ho hX hnx
      have hsame : Hid (b = true ∨ ltT F.1 y = false → tq ++ [(y, .slice pu lu cu, by_)] = halfT F (tl.take (j + 1))) := by
        intro hor
        rw [htk'.out, htq.out]
        cases hb0 : anyT F (tl.take j) with
        | true => exact halfT_yes hb0
        | false =>
          refine halfT_on hb0 (hor.resolve_left fun e => ?_)
          rw [hbj.out, hb0] at e
          cases e
      have hany : Hid (anyT F (tl.take (j + 1)) = (b || ltT F.1 y)) := by show _ = _; rw [htk'.out, anyT_snoc, hbj.out]
      cases hlt2 : ltT F.1 y with
      | true =>
        have hcmp : ∀ W, (binOp .gtr 9 (.string y) (.string x)).run Tryz.prog W = .ok (.bool true) W := fun W => by rw [gtr_any8, hx.out, hlt2]
        rw [hlt2] at hany
        have hlt3 : Hid (ltT F.1 y = true) := hlt2
        clear hlt2
        go_upto_if 25 with fail
        go_cut [4, 5] (fun s d wc => ∃ tz b', d = .bool b' ∧ Hid (b' = anyT F (tl.take (j + 1))) ∧ RowQ wc W.heap.size 125 s tz ∧ tz.length ≤ 16777218 ∧ Hid (tz ++ [(y, .slice pu lu cu, by_)] = halfT F (tl.take (j + 1))) ∧ Below W.heap.size W wc ∧ wc.heap[wr.heap.size]? = some (.cells #[.string y, .slice pu lu cu] 125 (0, 0)))
        case first =>
          cases b with
          | true =>
            have hok := hsame.out (.inl rfl)
            have hok' : Hid _ := hok
            clear hok hsame
            go_wp2
            go_meet
            case rel => exact ⟨tq, true, rfl, by show _ = _; rw [hany.out]; rfl, ho2, by omega, hok', hb2, hA2⟩
          | false =>
            have hok : Hid ((tq ++ [F]) ++ [(y, .slice pu lu cu, by_)] = halfT F (tl.take (j + 1))) := by
              show _ = _
              rw [htk'.out, htq.out]
              exact halfT_in hbj.out.symm hlt3.out
            have hal := (Below.refl (wr.alloc (.cells #[.string y, .slice pu lu cu] 125)).heap.size (wr.alloc (.cells #[.string y, .slice pu lu cu] 125))).alloc (Nat.le_refl _) (.cells #[.string x, .slice pv bs.length cv] 125)
            have hb3 := hb2.alloc hb2.size (.cells #[.string x, .slice pv bs.length cv] 125)
            have ho3 := row_same (w' := (wr.alloc (.cells #[.string y, .slice pu lu cu] 125)).alloc (.cells #[.string x, .slice pv bs.length cv] 125)) ho2 fun k hk => hal.block k (World.ownsRow.lt ho2 k hk).2
            have hR := hasR_lit (w := (wr.alloc (.cells #[.string y, .slice pu lu cu] 125)).alloc (.cells #[.string x, .slice pv bs.length cv] 125)) (k := wr.heap.size + 1) (size := 2) (xs := [.string x, .slice pv bs.length cv]) (e := 125) (f := (0, 0)) (heap_two8 _ _ _) 1 1 rfl (Nat.le_refl _)
            have hones : ∀ u ∈ [Value.string x, .slice pv bs.length cv], u.oneCell' = true := by intro z hz; simp at hz; rcases hz with rfl | rfl <;> rfl
            clear hsame
            go_wp2_with (at_builtin; refine ap_row elemF8 _ rfl _ _ rfl W.heap.size _ _ tq.length 1 (trs tq) [.string x, .slice pv bs.length cv] rfl rfl hR hones ho3 hq1 hq2 hb3.size ?_; intro v2 w2 hown2 hgrow2 hwh2; refine Halt8.out ?_)
            have HB3 : Hid (Below W.heap.size W w2) := hb3.trans ((Below.refl _ _).grown hgrow2 hb3.size fun k hk => (World.ownsRow.lt ho3 k hk).1)
            have HO3 : Hid (RowQ w2 W.heap.size 125 v2 (tq ++ [F])) := by
              refine RowQ.snoc (f := F) ?_
              rw [hvF.out, ← hx.out]
              exact hown2
            have HX3 : Hid (w2.heap[wr.heap.size]? = some (.cells #[.string y, .slice pu lu cu] 125 (0, 0))) := by
              refine (hgrow2.block wr.heap.size (by simp; omega) fun e => ?_).trans ((hal.block wr.heap.size (by simp)).trans hA2)
              have := hnx'.out _ e.symm
              omega
            obtain ⟨p3, c3, rfl⟩ := writes_shape hown2
            clear hgrow2 hwh2 hown2 hR ho3 hb3 hal ho2 hb2
            constructor
            go_wp2
            go_meet
            case rel => exact ⟨tq ++ [F], true, rfl, by show _ = _; rw [hany.out]; rfl, HO3.out, by simp; omega, hok, HB3.out, HX3.out⟩
        case rest =>
          clear ho2 hb2 hA2 htq hbj hq hq1 hq2 hnx' e0 e1 htk'
          obtain ⟨tz, b', rfl, hb', ho2, hzl, hz, hb2, hX2⟩ := hcut
          generalize wr.heap.size = by2 at *
          have hlt2 : by2 < wc.heap.size := (Array.getElem?_eq_some_iff.1 hX2).1
          have e0 : wc.cell? ⟨by2, 0, none⟩ = some (.string y) := by simp [World.cell?, hX2]
          have e1 : wc.cell? ⟨by2, 1, none⟩ = some (.slice pu lu cu) := by simp [World.cell?, hX2]
          have hal := (Below.refl wc.heap.size wc).alloc (Nat.le_refl _) (.cells #[.string y, .slice pu lu cu] 125)
          have hb3 := hb2.alloc hb2.size (.cells #[.string y, .slice pu lu cu] 125)
          have ho3 := row_same (w' := wc.alloc (.cells #[.string y, .slice pu lu cu] 125)) ho2 fun k hk => hal.block k (World.ownsRow.lt ho2 k hk).2
          have hR := hasR_lit (size := 2) (xs := [.string y, .slice pu lu cu]) (heap_alloc_new wc (.cells #[.string y, .slice pu lu cu] 125)) 1 1 rfl (Nat.le_refl _)
          have hones : ∀ u ∈ [Value.string y, .slice pu lu cu], u.oneCell' = true := by intro z hz; simp at hz; rcases hz with rfl | rfl <;> rfl
          have hq1 : tz.length + 1 ≤ 1099511627776 := by omega
          have hq2 : (tz.length + 1) * 40 ≤ 140737488355328 := by omega
          obtain ⟨po, co, rfl⟩ := writes_shape ho2
          clear ho2 hX2
          go_wp2_with (at_builtin; refine ap_row elemF8 _ rfl _ _ rfl W.heap.size _ _ tz.length 1 (trs tz) [.string y, .slice pu lu cu] rfl rfl hR hones ho3 hq1 hq2 hb3.size ?_; intro v2 w2 hown2 hgrow2 hwh2; refine Halt8.out ?_)
          have HB3 : Hid (Below W.heap.size W w2) := hb3.trans ((Below.refl _ _).grown hgrow2 hb3.size fun k hk => (World.ownsRow.lt ho3 k hk).1)
          have HO3 : Hid (RowQ w2 W.heap.size 125 v2 (tz ++ [(y, .slice pu lu cu, by_)])) := RowQ.snoc (f := (y, .slice pu lu cu, by_)) hown2
          obtain ⟨p3, c3, rfl⟩ := writes_shape hown2
          clear hgrow2 hwh2 hown2 hR ho3 hb3 hal hb2
          constructor
          go_wp2
          go_roundw
          case rel => exact ⟨j + 1, _, b', by omega, by simp, rfl, hb', hz, HO3.out, HB3.out⟩
          case measure => simp only [intOf]; omega
      | false =>
        have hcmp : ∀ W, (binOp .gtr 9 (.string y) (.string x)).run Tryz.prog W = .ok (.bool false) W := fun W => by rw [gtr_any8, hx.out, hlt2]
        rw [hlt2, Bool.or_false] at hany
        have hok := hsame.out (.inr hlt2)
        have hok' : Hid _ := hok
        clear hlt2 hok hsame
        go_upto_if 25 with fail
        go_cut [4, 5] (fun s d wc => ∃ tz b', d = .bool b' ∧ Hid (b' = anyT F (tl.take (j + 1))) ∧ RowQ wc W.heap.size 125 s tz ∧ tz.length ≤ 16777218 ∧ Hid (tz ++ [(y, .slice pu lu cu, by_)] = halfT F (tl.take (j + 1))) ∧ Below W.heap.size W wc ∧ wc.heap[wr.heap.size]? = some (.cells #[.string y, .slice pu lu cu] 125 (0, 0)))
        case first =>
          go_wp2
          go_meet
          case rel => exact ⟨tq, b, rfl, by show _ = _; rw [hany.out], ho2, by omega, hok', hb2, hA2⟩
        case rest =>
          clear ho2 hb2 hA2 htq hbj hq hq1 hq2 hnx' e0 e1 htk'
          obtain ⟨tz, b', rfl, hb', ho2, hzl, hz, hb2, hX2⟩ := hcut
          generalize wr.heap.size = by2 at *
          have hlt2 : by2 < wc.heap.size := (Array.getElem?_eq_some_iff.1 hX2).1
          have e0 : wc.cell? ⟨by2, 0, none⟩ = some (.string y) := by simp [World.cell?, hX2]
          have e1 : wc.cell? ⟨by2, 1, none⟩ = some (.slice pu lu cu) := by simp [World.cell?, hX2]
          have hal := (Below.refl wc.heap.size wc).alloc (Nat.le_refl _) (.cells #[.string y, .slice pu lu cu] 125)
          have hb3 := hb2.alloc hb2.size (.cells #[.string y, .slice pu lu cu] 125)
          have ho3 := row_same (w' := wc.alloc (.cells #[.string y, .slice pu lu cu] 125)) ho2 fun k hk => hal.block k (World.ownsRow.lt ho2 k hk).2
          have hR := hasR_lit (size := 2) (xs := [.string y, .slice pu lu cu]) (heap_alloc_new wc (.cells #[.string y, .slice pu lu cu] 125)) 1 1 rfl (Nat.le_refl _)
          have hones : ∀ u ∈ [Value.string y, .slice pu lu cu], u.oneCell' = true := by intro z hz; simp at hz; rcases hz with rfl | rfl <;> rfl
          have hq1 : tz.length + 1 ≤ 1099511627776 := by omega
          have hq2 : (tz.length + 1) * 40 ≤ 140737488355328 := by omega
          obtain ⟨po, co, rfl⟩ := writes_shape ho2
          clear ho2 hX2
          go_wp2_with (at_builtin; refine ap_row elemF8 _ rfl _ _ rfl W.heap.size _ _ tz.length 1 (trs tz) [.string y, .slice pu lu cu] rfl rfl hR hones ho3 hq1 hq2 hb3.size ?_; intro v2 w2 hown2 hgrow2 hwh2; refine Halt8.out ?_)
          have HB3 : Hid (Below W.heap.size W w2) := hb3.trans ((Below.refl _ _).grown hgrow2 hb3.size fun k hk => (World.ownsRow.lt ho3 k hk).1)
          have HO3 : Hid (RowQ w2 W.heap.size 125 v2 (tz ++ [(y, .slice pu lu cu, by_)])) := RowQ.snoc (f := (y, .slice pu lu cu, by_)) hown2
          obtain ⟨p3, c3, rfl⟩ := writes_shape hown2
          clear hgrow2 hwh2 hown2 hR ho3 hb3 hal hb2
          constructor
          go_wp2
          go_roundw
          case rel => exact ⟨j + 1, _, b', by omega, by simp, rfl, hb', hz, HO3.out, HB3.out⟩
          case measure => simp only [intOf]; omega
    · obtain rfl : j = tl.length := by omega
      have hX : wr.heap[bx]? = _ := (hb.block bx hsz).trans hA
      have hbx : bx < wr.heap.size := Nat.lt_of_lt_of_le hsz hb.size
      have e0 : wr.cell? ⟨bx, 0, none⟩ = some (.string x) := by simp [World.cell?, hX]
      have e1 : wr.cell? ⟨bx, 1, none⟩ = some (.slice pv bs.length cv) := by simp [World.cell?, hX]
      have htq2 : Hid (tq = halfT F tl) := by have := htq.out; rwa [List.take_length] at this
      have hbj2 : Hid (b = anyT F tl) := by have := hbj.out; rwa [List.take_length] at this
      have hq : tq.length ≤ 16777217 := by
        rw [htq2.out]
        have := halfT_len F tl
        omega
      clear htq hbj
      cases b with
      | true =>
        rw [show tq = insT F tl from htq2.out.trans (halfT_done hbj2.out.symm)] at ho
        obtain ⟨⟨v1, k1⟩, k2, k3, k4⟩ := hend.out wr _ hb ho
        have k3' : Hid _ := k3
        obtain ⟨po, co, rfl⟩ := writes_shape ho
        clear ho k3 hend
        go_wp2
        go_end0
        exact ⟨⟨_, rfl⟩, ⟨_, k3'.out⟩, k4⟩
      | false =>
        have hal := (Below.refl wr.heap.size wr).alloc (Nat.le_refl _) (.cells #[.string x, .slice pv bs.length cv] 125)
        have hb3 := hb.alloc hb.size (.cells #[.string x, .slice pv bs.length cv] 125)
        have ho3 := row_same (w' := wr.alloc (.cells #[.string x, .slice pv bs.length cv] 125)) ho fun k hk => hal.block k (World.ownsRow.lt ho k hk).2
        have hR := hasR_lit (size := 2) (xs := [.string x, .slice pv bs.length cv]) (heap_alloc_new wr (.cells #[.string x, .slice pv bs.length cv] 125)) 1 1 rfl (Nat.le_refl _)
        have hones : ∀ u ∈ [Value.string x, .slice pv bs.length cv], u.oneCell' = true := by intro z hz; simp at hz; rcases hz with rfl | rfl <;> rfl
        have hq1 : tq.length + 1 ≤ 1099511627776 := by omega
        have hq2 : (tq.length + 1) * 40 ≤ 140737488355328 := by omega
        obtain ⟨po, co, rfl⟩ := writes_shape ho
        clear ho hX
        go_wp2_with (at_builtin; refine ap_row elemF8 _ rfl _ _ rfl W.heap.size _ _ tq.length 1 (trs tq) [.string x, .slice pv bs.length cv] rfl rfl hR hones ho3 hq1 hq2 hb3.size ?_; intro v2 w2 hown2 hgrow2 hwh2; refine Halt8.out ?_)
        have HB3 : Below W.heap.size W w2 := hb3.trans ((Below.refl _ _).grown hgrow2 hb3.size fun k hk => (World.ownsRow.lt ho3 k hk).1)
        have HO3 : RowQ w2 W.heap.size 125 v2 (tq ++ [F]) := by
          refine RowQ.snoc (f := F) ?_
          rw [hvF.out, ← hx.out]
          exact hown2
        rw [show tq ++ [F] = insT F tl by rw [htq2.out]; exact halfT_end hbj2.out.symm] at HO3
        obtain ⟨⟨v1, k1⟩, k2, k3, k4⟩ := hend.out w2 _ HB3 HO3
        have k3' : Hid _ := k3
        obtain ⟨p3, c3, rfl⟩ := writes_shape hown2
        clear hgrow2 hwh2 hown2 hR ho3 hb3 hal hb k3 hend HO3 HB3
        constructor
        go_wp2
        go_end0
        exact ⟨⟨_, rfl⟩, ⟨_, k3'.out⟩, k4⟩
end
end Go.Proofs.YthlelcmifolnfaaGreatDoor
