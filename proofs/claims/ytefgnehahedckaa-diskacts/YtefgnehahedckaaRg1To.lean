import Derived.Test.YtefgnehahedckaaRf8To
import Derived.Deep.RegionLaw
import Derived.Deep.DeepCutAuto
/-
  The document's own disk: its buffer is emptied; one proof for all the orders of a region.
-/
namespace Go.Proofs.Ytefgnehahedckaa
open Go.RowKit Go.Maps

/-- One goal for all the orders of a region. -/
structure Wrap9 (G : Prop) : Prop where
  out : G
theorem once_proved9 {G P : Prop} (proof : G) (main : Wrap9 G → P) : P := main ⟨proof⟩
/-- The first m bytes. -/
theorem Has.head9 {w : World} {p : Option Addr} {n c : Nat} {xs : List Int} (h : Has w (.slice p n c) xs) {m : Nat} (hm : m ≤ xs.length) : Has w (.slice p m c) (xs.take m) := by
  obtain ⟨p', c', e, h1, h2, h3⟩ := h
  simp only [Value.slice.injEq] at e
  obtain ⟨rfl, rfl, rfl⟩ := e
  have hl : (xs.take m).length = m := by rw [List.length_take]; omega
  refine ⟨p, c, by rw [hl], by omega, h2, fun h0 => ?_⟩
  rw [hl] at h0
  obtain ⟨b, o, rfl, hb, hc⟩ := h3 (by omega)
  refine ⟨b, o, rfl, hb, fun i hi => ?_⟩
  rw [hl] at hi
  rw [hc i (by omega)]
  simp [hi]
/-- The buffer is empty. -/
theorem RefLies.noB {w : World} {r : Nat} {S : Nat → Prop} {vl vb : Value} {tl tb : List Tr} {blocks : Nat} {off : Bool} {ops : Nat} {n keep : Int} (h : RefLies w r S vl vb tl tb blocks off ops n keep) : RefLies (w.setCell ⟨r, 2, none⟩ (.slice none 0 0)) r S vl (.slice none 0 0) tl [] blocks off ops n keep := by
  obtain ⟨q1, -, q3, -⟩ := h.apart
  have hs : ∀ (v : Value), v.ownBlock ≠ some r → ∀ g, v.ownBlock = some g → (w.setCell ⟨r, 2, none⟩ (.slice none 0 0)).heap[g]? = w.heap[g]? := fun v hv g hg => Below.heap_setCell _ _ _ _ (fun e => hv (by rw [hg]; exact congrArg some e))
  refine ⟨?_, row_same h.rowL (hs _ q1), World.ownsRow_nil _ _ _ _, h.sR, h.sL, (fun g hg => by cases hg), fun f hf => ⟨row_same (h.byL f hf).1 (hs _ (q3 f hf)), (h.byL f hf).2⟩, fun f hf => by cases hf⟩
  have hb := h.blk
  simp [World.setCell, Array.getElem?_modify, hb]

end Go.Proofs.Ytefgnehahedckaa

/-
  The document's own disk: sure.
-/
namespace Go.Proofs.Ytefgnehahedckaa
open Go.RowKit Go.Maps

theorem fallL_len {N : Nat} {buf l : List (ByteArray × List Int)} {g : ByteArray × List Int} (h : g ∈ fallL N buf l) : ∃ f ∈ l, g.2.length ≤ f.2.length + tot buf := by
  unfold fallL at h
  obtain ⟨f, hf, rfl⟩ := List.mem_map.1 h
  refine ⟨f, hf, ?_⟩
  have h1 := left_le buf f.1 N
  have h2 := pend_le_tot buf f.1
  show (f.2 ++ left N buf f.1).length ≤ _
  rw [List.length_append]
  omega
theorem trM_mem {t : List Tr} {f : Tr} (h : f ∈ t) : (f.1, f.2.2) ∈ trM t := List.mem_map.2 ⟨f, h, rfl⟩
theorem trM_back {t : List Tr} {g : ByteArray × List Int} (h : g ∈ trM t) : ∃ f ∈ t, (f.1, f.2.2) = g := List.mem_map.1 h
set_option maxRecDepth 10000 in
set_option maxHeartbeats 4000000 in
theorem rsure_any {w : World} {r : Nat} {S : Nat → Prop} {vl vb : Value} {tl tb : List Tr} {blocks : Nat} {off : Bool} {ops : Nat} {n keep : Int} (h : RefLies w r S vl vb tl tb blocks off ops n keep) (hS : ∀ k, w.heap.size ≤ k → S k) (N : Nat) (hN : (N : Int) ≤ 9223372036854775807) (hnd : (nms (trM tl)).Nodup) (hmem : ∀ f ∈ tb, f.1 ∈ nms (trM tl))
    (hl : tl.length ≤ 1099511627776) (hlb : tb.length ≤ 1099511627776) (hsz : ∀ f ∈ tl, f.2.2.length + tot (trM tb) ≤ 549755813888) (hst : tot (trM tb) ≤ 549755813888) :
    Calls Try.prog 70 #[.pointer (some ⟨r, 0, none⟩), .int .i64 (N : Nat)] w fun e w' => (∃ v, e = .returned v) ∧ (∃ tl', RefLies w' r S vl (.slice none 0 0) tl' [] blocks off ops n keep ∧ trM tl' = fallL N (trM tb) (trM tl)) ∧ Turn S w w' := by
  obtain ⟨-, -, c2, -⟩ := h.cells
  obtain ⟨pb, cb, rfl, hcb⟩ := tr_shape h.rowB
  have hlt := h.lt
  have hS' : Hid (∀ k, w.heap.size ≤ k → S k) := hS
  have hnd' : Hid (nms (trM tl)).Nodup := hnd
  have hmem' : Hid (∀ f ∈ tb, f.1 ∈ nms (trM tl)) := hmem
  have hsz' : Hid (∀ f ∈ tl, f.2.2.length + tot (trM tb) ≤ 549755813888) := hsz
  have hst' : Hid (tot (trM tb) ≤ 549755813888) := hst
  clear hS hnd hmem hsz hst
  have h0 : ∃ tj, RefLies w r S vl (.slice pb tb.length cb) tj tb blocks off ops n keep ∧ Hid (tj.length = tl.length) ∧ Hid (trM tj = fallL N (trM (tb.take 0)) (trM tl)) := ⟨tl, h, rfl, (fallL_nil N _).symm⟩
  go_enter Try.func70, Try.ntmps70
  go_wp2
  go_loopw [13, 1] (fun t s wr => ∃ j : Nat, j ≤ tb.length ∧ t = .int .i64 (j : Nat) ∧ s = .int .i64 ((N - tot (trM (tb.take j)) : Nat) : Int) ∧ (∃ tj, RefLies wr r S vl (.slice pb tb.length cb) tj tb blocks off ops n keep ∧ Hid (tj.length = tl.length) ∧ Hid (trM tj = fallL N (trM (tb.take j)) (trM tl))) ∧ Turn S w wr) (fun t _ _ => tb.length - (intOf t).toNat)
  case atStart => exact ⟨0, by omega, rfl, rfl, h0, Turn.refl _ _⟩
  case round =>
    clear h0 c2 h
    obtain ⟨j, hj, rfl, rfl, ⟨tj, h, htl, hM⟩, ht⟩ := hrel
    by_cases hjl : j < tb.length
    · obtain ⟨gb, c', e, _, hgb, d0, d1⟩ := tr_at h.rowB hjl
      simp only [Value.slice.injEq] at e
      obtain ⟨rfl, -, rfl⟩ := e
      have hy := hmem'.out _ (getD_mem8 hjl)
      have hw0 := (h.byB _ (getD_mem8 hjl)).1
      have htk : Hid (trM (tb.take (j + 1)) = trM (tb.take j) ++ [((tb.getD j default).1, (tb.getD j default).2.2)]) := by
        show _ = _
        rw [List.take_succ_eq_append_getElem hjl, List.getD_eq_getElem?_getD, List.getElem?_eq_getElem hjl]
        unfold trM
        rw [List.map_append]
        rfl
      have hy' : (tb.getD j default).1 ∈ nms (trM tj) := by rw [hM.out, fallL_names]; exact hy
      have htot1 : Hid (tot (trM (tb.take j)) + (tb.getD j default).2.2.length ≤ 549755813888) := by
        have h1 := tot_take hjl
        have h2 := tot_take_le tb (j + 1)
        have h3 := hst'.out
        show _ ≤ _
        omega
      clear hy
      generalize tb.getD j default = Y at *
      obtain ⟨y, uy, bb⟩ := Y
      dsimp only at d0 d1 hw0 htk hy' htot1
      obtain ⟨py, cy, rfl⟩ := hw0.shape
      have hal := (Below.refl wr.heap.size wr).alloc (Nat.le_refl _) (.cells #[.string y, .slice py bb.length cy] 96)
      have h1 := h.below hal
      have htjl : tj.length ≤ 1099511627776 := by rw [htl.out]; exact hl
      have hc := rfind_any h1 htjl y
      have hcy : bb.length ≤ cy := by
        obtain ⟨_, _, e, q, _⟩ := hw0.has
        simp only [Value.slice.injEq] at e
        obtain ⟨_, _, rfl⟩ := e
        exact q
      obtain ⟨nn, hnn⟩ : ∃ nn, nn = N - tot (trM (tb.take j)) := ⟨_, rfl⟩
      rw [← hnn]
      have hnn' : Hid (nn = N - tot (trM (tb.take j))) := hnn
      clear hnn
      have hnb : (nn : Int) ≤ 9223372036854775807 := by have := hnn'.out; omega
      go_upto_if 22 with fail
      go_cut [6] (fun tv wc => (∃ m : Nat, tv = .slice py m cy ∧ m ≤ nn ∧ Hid (m = min nn bb.length)) ∧ wc = wr.alloc (.cells #[.string y, .slice py bb.length cy] 96))
      case first =>
        by_cases hlong : nn < bb.length
        · have hlong' : (nn : Int) < bb.length := by omega
          go_wp2
          go_meet
          case rel => exact ⟨⟨nn, by simp, Nat.le_refl _, (Nat.min_eq_left (Nat.le_of_lt hlong)).symm⟩, rfl⟩
        · have hlong' : (bb.length : Int) ≤ nn := by omega
          go_wp2
          go_meet
          case rel => exact ⟨⟨bb.length, rfl, by omega, (Nat.min_eq_right (by omega)).symm⟩, rfl⟩
      case rest =>
        obtain ⟨⟨m, rfl, hmn, hm⟩, rfl⟩ := hcut
        go_wp2_with fail
        refine hc.mono ?_
        clear hc
        rintro e w2 ⟨⟨z, rfl, hz⟩, hb2⟩
        rcases hz with ⟨_, hno⟩ | ⟨i, rfl, hi, hnm, -⟩
        · exact absurd hy' hno
        have h2 := h1.below hb2
        obtain ⟨g, c, rfl, hcc, hg, a0, a1⟩ := tr_at h2.rowL hi
        have hown := (h2.byL _ (getD_mem8 hi)).1
        obtain ⟨-, r1, -⟩ := h2.cells
        have hr2 := h2.lt
        obtain ⟨pu, cu, hu⟩ := hown.shape
        rw [hu] at a1
        have hml : m ≤ bb.length := by rw [hm.out]; exact Nat.min_le_right _ _
        have hbl : (bb.take m).length = m := by rw [List.length_take]; omega
        have hbH : Has w2 (.slice py m cy) (bb.take m) := (((hw0.has.below hal (Nat.le_refl _)).below hb2 (Nat.le_refl _))).head9 hml
        have htk2 : Hid (bb.take m = bb.take nn) := by
          show _ = _
          rw [hm.out]
          by_cases hq : nn ≤ bb.length
          · rw [Nat.min_eq_left hq]
          · rw [Nat.min_eq_right (by omega), List.take_of_length_le (Nat.le_refl _), List.take_of_length_le (by omega)]
        have hoH := hown.has
        rw [hu] at hoH
        have hfz : Hid (∀ w' v', Below w2.heap.size w2 w' → Owns w' w2.heap.size 5 v' ((tj.getD i default).2.2 ++ bb.take m) → (RefLies (w'.setCell ⟨g, i * 2 + 1, none⟩ v') r S (.slice (some ⟨g, 0, none⟩) tj.length c) (.slice (some ⟨gb, 0, none⟩) tb.length cb) (tj.set i ((tj.getD i default).1, v', (tj.getD i default).2.2 ++ bb.take m)) tb blocks off ops n keep ∧ Turn S w (w'.setCell ⟨g, i * 2 + 1, none⟩ v')) ∧ w'.frozen? ⟨g, i * 2 + 1, none⟩ = false) := by
          intro w' v' hb' ho'
          have h3 := h2.below hb'
          have hsz : w.heap.size ≤ w2.heap.size := Nat.le_trans ht.size (Nat.le_trans hal.size hb2.size)
          refine ⟨⟨h3.setF i (row_base ho' (Nat.zero_le _)) (fun k hk => hS'.out k (Nat.le_trans hsz (World.ownsRow.lt ho' k hk).1)), ?_⟩, World.ownsRow.frozenAt h3.rowL _⟩
          exact ((ht.trans (Turn.of_below hal (Nat.le_refl _))).trans ((Turn.of_below hb2 (Nat.le_refl _)).trans (Turn.of_below hb' (Nat.le_refl _)))).setCell (.inl (h3.sL g rfl)) v'
        have hfin : Hid (∀ v', trM (tj.set i ((tj.getD i default).1, v', (tj.getD i default).2.2 ++ bb.take m)) = fallL N (trM (tb.take (j + 1))) (trM tl)) := by
          intro v'
          rw [trM_set, htk.out, hM.out]
          rw [fallL_step N (trM (tb.take j)) y bb hnd'.out (i := i) (zs := (tj.getD i default).2.2) (by rw [← hM.out]; unfold trM; rw [List.getElem?_map, List.getElem?_eq_getElem hi, ← hnm, List.getD_eq_getElem?_getD, List.getElem?_eq_getElem hi]; rfl), hnm, ← hnn'.out, htk2.out]
        have hslot : Hid (N - tot (trM (tb.take (j + 1))) = nn - m) := by
          show _ = _
          have h5 := hnn'.out
          have h6 := hm.out
          rw [htk.out, tot_append]
          show N - (tot (trM (tb.take j)) + (bb.length + 0)) = _
          omega
        have hlens : (tj.getD i default).2.2.length + m ≤ 1099511627776 := by
          obtain ⟨f, hf, hle⟩ := fallL_len (by rw [← hM.out]; exact trM_mem (getD_mem8 hi) : ((tj.getD i default).1, (tj.getD i default).2.2) ∈ fallL N (trM (tb.take j)) (trM tl))
          obtain ⟨q, hq, rfl⟩ := trM_back hf
          have h4 := hsz'.out q hq
          have h5 := htot1.out
          have h6 := tot_take_le tb j
          dsimp only at hle
          omega
        have hlen1 : ([] : List Int).length + (tj.getD i default).2.2.length ≤ 1099511627776 := by
          rw [List.length_nil]; omega
        have hi' : (i : Int) < (tj.length : Int) := by omega
        have htl2 : Hid ((tj.set i ((tj.getD i default).1, undef, [])).length = tl.length) := by show _ = _; rw [List.length_set]; exact htl.out
        clear hw0 hcy htk hnn' hnd' hmem' hy' h1 hown hu htot1 hsz' hst' hM htl hml
        generalize hbi : (tj.getD i default).2.2 = bi at *
        go_wp2_with fail
        apply once_proved9
        case main =>
          intro key
          go_region_law (first
            | (refine step_fresh8 _ rfl (.tmp 39) (.tmp 47) rfl (by first | exact ext_alloc8 (ext_drew8 _) _ | exact ext_on8 (ext_alloc8 (Below.refl _ _) _) | exact ext_alloc8 (Below.refl _ _) _) _ _ [] _ rfl rfl hoH (by first | exact World.ownsRow_made _ #[] 0 (Nat.le_refl _) (by decide) rfl | exact owns_none8 _) hlen1 ?_; intro v7 w7 ho7 hb7; have b1 := (hb7.cell (p := ⟨r, 1, none⟩) hr2).trans r1; have bA := (hb7.cell (p := ⟨g, i * 2 + 1, none⟩) hg).trans a1)
            | (refine step_fresh8 _ rfl (.tmp 48) (.tmp 49) rfl hb7 _ _ _ _ rfl rfl hbH ho7 (by rw [List.nil_append, hbl]; omega) ?_; intro v8 w8 ho8 hb8; obtain ⟨p8, q8, rfl⟩ := ho8.shape; have cA8 := (hb8.cell (p := ⟨g, i * 2 + 1, none⟩) hg).trans a1; have c18 := (hb8.cell (p := ⟨r, 1, none⟩) hr2).trans r1; have hst := hfz.out w8 _ hb8 ho8; have fA8 := hst.2; have HST : Hid _ := hst; clear hst))
          all_goals
            revert v7 w7 ho7 hb7 b1 bA p8 q8 w8
            exact key.out
        case proof =>
          intro v7 w7 ho7 hb7 b1 bA w8 hb8 p8 q8 ho8 cA8 c18 fA8 HST
          clear hfz ho7 hb7 b1 bA ho8
          go_wp2
          go_roundw
          case rel =>
            have H := HST.out.1
            rw [List.nil_append, List.length_append, hbl] at H
            exact ⟨j + 1, by omega, by simp, by rw [hslot.out]; congr 1; omega, ⟨_, H.1, by show _ = _; rw [List.length_set]; have := htl2.out; rwa [List.length_set] at this, hfin.out _⟩, H.2⟩
          case measure => simp only [intOf]; omega
    · obtain rfl : j = tb.length := by omega
      rw [List.take_length] at hM
      have hfin : Hid (∃ tl', RefLies (wr.setCell ⟨r, 2, none⟩ (.slice none 0 0)) r S vl (.slice none 0 0) tl' [] blocks off ops n keep ∧ trM tl' = fallL N (trM tb) (trM tl)) := ⟨tj, h.noB, hM.out⟩
      obtain ⟨-, -, d2, -⟩ := h.cells
      have f2 := h.free 2
      have t2 := ht.setCell (p := ⟨r, 2, none⟩) (.inl h.sR) (.slice none 0 0)
      clear h hM
      go_wp2
      go_end0
      exact ⟨⟨_, rfl⟩, hfin.out, t2⟩
end Go.Proofs.Ytefgnehahedckaa
