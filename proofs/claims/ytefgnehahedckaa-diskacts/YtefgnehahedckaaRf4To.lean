import Derived.Test.YtefgnehahedckaaRf2To
/-
  The document's own disk: all.
-/
namespace Go.Proofs.Ytefgnehahedckaa
open Go.RowKit Go.Maps

theorem pend_take {t : List Tr} {j : Nat} (h : j < t.length) (x : ByteArray) : pend (trM (t.take (j + 1))) x = pend (trM (t.take j)) x ++ (if (t.getD j default).1 = x then (t.getD j default).2.2 else []) := by
  rw [List.take_succ_eq_append_getElem h, List.getD_eq_getElem?_getD, List.getElem?_eq_getElem h]
  unfold trM
  rw [List.map_append, pend_append]
  simp [pend]
theorem getD_mem8 {t : List Tr} {j : Nat} (h : j < t.length) : t.getD j default ∈ t := by
  rw [List.getD_eq_getElem?_getD, List.getElem?_eq_getElem h]
  exact List.getElem_mem h
theorem cellsB_one8 (xs : List Int) : ∀ u ∈ cellsB xs, u.oneCell' = true := oneB xs
section
variable {w : World} {r : Nat} {S : Nat → Prop} {vl vb : Value} {tl tb : List Tr} {blocks : Nat} {off : Bool} {ops : Nat} {n keep : Int}
set_option maxRecDepth 10000 in
set_option maxHeartbeats 2000000 in
theorem rall_any (h : RefLies w r S vl vb tl tb blocks off ops n keep) {i : Nat} (hi : i < tl.length) (hlb : tb.length ≤ 1099511627776) (ht : (tl.getD i default).2.2.length + tot (trM tb) ≤ 1099511627776) :
    Calls Try.prog 68 #[.pointer (some ⟨r, 0, none⟩), .int .i64 (i : Nat)] w fun e w' => (∃ v', e = .returned v' ∧ Owns w' w.heap.size 5 v' ((tl.getD i default).2.2 ++ pend (trM tb) (tl.getD i default).1)) ∧ Below w.heap.size w w' := by
  obtain ⟨-, c1, c2, -⟩ := h.cells
  have hlt := h.lt
  obtain ⟨g, c, rfl, hc, hg, a0, a1⟩ := tr_at h.rowL hi
  obtain ⟨pb, cb, rfl, hcb⟩ := tr_shape h.rowB
  have hown := (h.byL _ (getD_mem8 hi)).1
  have ht' : Hid ((tl.getD i default).2.2.length + tot (trM tb) ≤ 1099511627776) := ht
  clear ht
  generalize hX : tl.getD i default = X at *
  obtain ⟨nm, u, bs⟩ := X
  dsimp only at a0 a1 hown ht' ⊢
  have he := Owns.empty w w.heap.size 5 (Nat.le_refl _)
  have hba : Below w.heap.size w (w.alloc (.cells #[] 5)) := (Below.refl _ _).alloc (Nat.le_refl _) _
  have hR' := hasR_of_has (hown.has.below hba (Nat.le_refl _))
  obtain ⟨pu, cu, rfl⟩ := hown.shape
  have h0n : 0 + bs.length ≤ 1099511627776 := by have := ht'.out; omega
  have h0m : (0 + bs.length) * 1 ≤ 140737488355328 := by omega
  have hi' : (i : Int) < (tl.length : Int) := by omega
  go_enter Try.func68, Try.ntmps68
  go_wp2_with (at_builtin; refine ap_row elemB _ rfl _ _ rfl w.heap.size _ _ 0 bs.length [] (cellsB bs) rfl rfl hR' (cellsB_one8 _) he h0n h0m hba.size ?_; intro v' w' hown' hgrow hwh; refine Halt8.out ?_)
  rw [Nat.zero_add, List.nil_append] at hown'
  have hb : Below w.heap.size w w' := hba.trans ((Below.refl _ _).grown hgrow hba.size fun k hk => (World.ownsRow.lt he k hk).1)
  have ho : Owns w' w.heap.size 5 v' bs := hown'
  have d1 := (hb.cell (p := ⟨r, 2, none⟩) hlt).trans c2
  clear hgrow hwh hown' hR' he hba h0n h0m hown
  have hst : ∃ vo, v' = vo ∧ Owns w' w.heap.size 5 vo (bs ++ pend (trM (tb.take 0)) nm) := ⟨_, rfl, by rw [List.take_zero]; show Owns _ _ _ _ (bs ++ []); rw [List.append_nil]; exact ho⟩
  obtain ⟨pv, cv, rfl⟩ := ho.shape
  clear ho
  constructor
  go_wp2
  go_loopw [23, 5] (fun t s wr => ∃ j : Nat, j ≤ tb.length ∧ t = .int .i64 (j : Nat) ∧ Owns wr w.heap.size 5 s (bs ++ pend (trM (tb.take j)) nm) ∧ Below w.heap.size w wr) (fun t _ _ => tb.length - (intOf t).toNat)
  case atStart =>
    obtain ⟨vo, rfl, ho⟩ := hst
    exact ⟨0, by omega, rfl, ho, hb⟩
  case round =>
    clear hst hb d1
    obtain ⟨j, hj, rfl, ho, hb⟩ := hrel
    by_cases hjl : j < tb.length
    · obtain ⟨gb, c', e, _, hgb, d0, d1⟩ := tr_at (h.below hb).rowB hjl
      simp only [Value.slice.injEq] at e
      obtain ⟨rfl, -, rfl⟩ := e
      have hw0 := ((h.below hb).byB _ (getD_mem8 hjl)).1
      have hpt : Hid (pend (trM (tb.take (j + 1))) nm = pend (trM (tb.take j)) nm ++ (if (tb.getD j default).1 = nm then (tb.getD j default).2.2 else [])) := pend_take hjl nm
      have htot : Hid ((pend (trM (tb.take (j + 1))) nm).length ≤ tot (trM tb)) := Nat.le_trans (pend_le_tot _ _) (tot_take_le tb (j + 1))
      have e1 := (hb.cell (p := ⟨r, 1, none⟩) hlt).trans c1
      have b0 := (hb.cell (p := ⟨g, i * 2, none⟩) hg).trans a0
      have hr2 : r < wr.heap.size := Nat.lt_of_lt_of_le hlt hb.size
      have hg2 : g < wr.heap.size := Nat.lt_of_lt_of_le hg hb.size
      generalize tb.getD j default = Y at *
      obtain ⟨y, uy, by_⟩ := Y
      dsimp only at d0 d1 hw0 hpt
      obtain ⟨py, cy, rfl⟩ := hw0.shape
      have hal := (Below.refl wr.heap.size wr).alloc (Nat.le_refl _) (.cells #[.string y, .slice py by_.length cy] 96)
      have ho2 := ho.below hal (Nat.le_refl _)
      have hb2 := hb.trans (hal.mono hb.size)
      obtain ⟨po, co, rfl⟩ := ho.shape
      by_cases hx : y = nm
      · subst hx
        rw [if_pos rfl] at hpt
        have hlen : (bs ++ pend (trM (tb.take j)) y).length + by_.length ≤ 1099511627776 := by
          have h1 := ht'.out
          have h2 := htot.out
          rw [hpt.out, List.length_append] at h2
          rw [List.length_append]
          omega
        have hlen2 : ((bs ++ pend (trM (tb.take j)) y).length + by_.length) * 1 ≤ 140737488355328 := by omega
        have hRN := fun k => hasR_of_has ((hw0.has.below hal (Nat.le_refl _)).below (below_drewN8 (Below.refl _ _) k) (Nat.le_refl _))
        have hoN : ∀ k, Owns ((wr.alloc (.cells #[.string y, .slice py by_.length cy] 96)).drewN k) w.heap.size 5 _ (bs ++ pend (trM (tb.take j)) y) := fun k => ho2.below (below_drewN8 (Below.refl _ _) k) (Nat.le_refl _)
        have hbN := fun k => below_drewN8 hb2 k
        clear ho ho2 hw0 c1 c2 a0 a1 htot
        go_wp2_with fail
        go_quiet (fail)
        go_wp2_with (at_builtin; refine ap_row elemB _ rfl _ _ rfl w.heap.size _ _ (bs ++ pend (trM (tb.take j)) y).length by_.length (cellsB (bs ++ pend (trM (tb.take j)) y)) (cellsB by_) rfl rfl (hRN nq) (cellsB_one8 _) (hoN nq) hlen hlen2 (hbN nq).size ?_; intro v2 w2 hown2 hgrow2 hwh2; refine Halt8.out ?_)
        have hb3 := (hbN nq).trans ((Below.refl _ _).grown hgrow2 (hbN nq).size fun k hk => (World.ownsRow.lt (hoN nq) k hk).1)
        have ho3 : Owns w2 w.heap.size 5 v2 (bs ++ pend (trM (tb.take (j + 1))) y) := by
          unfold Owns
          rw [hpt.out, ← List.append_assoc, List.length_append, show cellsB ((bs ++ pend (trM (tb.take j)) y) ++ by_) = cellsB (bs ++ pend (trM (tb.take j)) y) ++ cellsB by_ by simp [cellsB]]
          exact hown2
        have HO3 : Hid (Owns w2 w.heap.size 5 v2 (bs ++ pend (trM (tb.take (j + 1))) y)) := ho3
        have HB3 : Hid (Below w.heap.size w w2) := hb3
        obtain ⟨p3, c3, rfl⟩ := ho3.shape
        clear hgrow2 hwh2 hown2 hRN hoN hbN ho3 hb3
        constructor
        go_wp2
        go_roundw
        case rel => exact ⟨j + 1, by omega, by simp, HO3.out, HB3.out⟩
        case measure => simp only [intOf]; omega
      · have hne := str_ne8 hx
        rw [if_neg hx, List.append_nil] at hpt
        have HO : Hid (∀ k, Owns ((wr.alloc (.cells #[.string y, .slice py by_.length cy] 96)).drewN k) w.heap.size 5 _ (bs ++ pend (trM (tb.take j)) nm)) := fun k => ho2.below (below_drewN8 (Below.refl _ _) k) (Nat.le_refl _)
        clear ho ho2 hx hw0 c1 c2 a0 a1
        go_wp2_with fail
        go_quiet (fail)
        go_wp2
        go_roundw
        case rel => exact ⟨j + 1, by omega, by simp, by rw [hpt.out]; exact HO.out _, below_drewN8 hb2 _⟩
        case measure => simp only [intOf]; omega
    · obtain rfl : j = tb.length := by omega
      rw [List.take_length] at ho
      have HO : Hid _ := ho
      obtain ⟨po, co, rfl⟩ := ho.shape
      clear ho c1 c2 a0 a1
      go_wp2
      go_ret
      exact ⟨⟨_, rfl, HO.out⟩, hb⟩
end
end Go.Proofs.Ytefgnehahedckaa

/-
  The document's own disk: Used.
-/
namespace Go.Proofs.Ytefgnehahedckaa
open Go.RowKit Go.Maps

theorem usedL_append (buf : List (ByteArray × List Int)) : ∀ l m : List (ByteArray × List Int), usedL buf (l ++ m) = usedL buf l + usedL buf m
  | [], m => by rw [List.nil_append, usedL]; omega
  | f :: l, m => by rw [List.cons_append, usedL, usedL, usedL_append buf l m]; omega
theorem used_take {t : List Tr} {j : Nat} (h : j < t.length) (buf : List (ByteArray × List Int)) : usedL buf (trM (t.take (j + 1))) = usedL buf (trM (t.take j)) + need ((t.getD j default).2.2 ++ pend buf (t.getD j default).1).length := by
  rw [List.take_succ_eq_append_getElem h, List.getD_eq_getElem?_getD, List.getElem?_eq_getElem h]
  unfold trM
  rw [List.map_append, usedL_append]
  simp [usedL]
theorem used_take_le (t : List Tr) (j : Nat) (buf : List (ByteArray × List Int)) : usedL buf (trM (t.take j)) ≤ usedL buf (trM t) := by
  conv => rhs; rw [← List.take_append_drop j t]
  unfold trM
  rw [List.map_append, usedL_append]
  omega
section
variable {w : World} {r : Nat} {S : Nat → Prop} {vl vb : Value} {tl tb : List Tr} {blocks : Nat} {off : Bool} {ops : Nat} {n keep : Int}
set_option maxRecDepth 10000 in
set_option maxHeartbeats 2000000 in
theorem rused_any (h : RefLies w r S vl vb tl tb blocks off ops n keep) (hl : tl.length ≤ 1099511627776) (hlb : tb.length ≤ 1099511627776) (ht : ∀ f ∈ tl, f.2.2.length + tot (trM tb) ≤ 1099511627776) (hu : usedL (trM tb) (trM tl) ≤ 1099511627776) :
    Calls Try.prog 48 #[.pointer (some ⟨r, 0, none⟩)] w fun e w' => e = .returned (.int .i64 ((if off = true then 0 else usedL (trM tb) (trM tl) : Nat) : Int)) ∧ Below w.heap.size w w' := by
  obtain ⟨-, c1, -, c3, -⟩ := h.cells
  have hlt := h.lt
  obtain ⟨p, c, rfl, hc⟩ := tr_shape h.rowL
  have ht' : Hid (∀ f ∈ tl, f.2.2.length + tot (trM tb) ≤ 1099511627776) := ht
  have hu' : Hid (usedL (trM tb) (trM tl) ≤ 1099511627776) := hu
  clear ht hu
  go_enter Try.func48, Try.ntmps48
  go_wp2
  go_loopw [10, 3] (fun t s wr => ∃ j : Nat, j ≤ tl.length ∧ t = .int .i64 (j : Nat) ∧ s = .int .i64 ((usedL (trM tb) (trM (tl.take j)) : Nat) : Int) ∧ Below w.heap.size w wr) (fun t _ _ => tl.length - (intOf t).toNat)
  case atStart => exact ⟨0, by omega, rfl, rfl, Below.refl _ _⟩
  case round =>
    obtain ⟨j, hj, rfl, rfl, hb⟩ := hrel
    by_cases hjl : j < tl.length
    · have hc := rall_any (h.below hb) hjl hlb (ht'.out _ (getD_mem8 hjl))
      have hst : Hid (usedL (trM tb) (trM (tl.take (j + 1))) = usedL (trM tb) (trM (tl.take j)) + need ((tl.getD j default).2.2 ++ pend (trM tb) (tl.getD j default).1).length) := used_take hjl _
      have hb1 : usedL (trM tb) (trM (tl.take j)) + need ((tl.getD j default).2.2 ++ pend (trM tb) (tl.getD j default).1).length ≤ 1099511627776 := by
        have h1 := used_take_le tl (j + 1) (trM tb)
        have h2 := hu'.out
        have h3 := hst.out
        omega
      have hbl : ((tl.getD j default).2.2 ++ pend (trM tb) (tl.getD j default).1).length ≤ 140737488355328 := by
        have h1 := ht'.out _ (getD_mem8 hjl)
        have h2 := pend_le_tot (trM tb) (tl.getD j default).1
        rw [List.length_append]
        omega
      generalize usedL (trM tb) (trM (tl.take j)) = uj at *
      generalize (tl.getD j default).2.2 ++ pend (trM tb) (tl.getD j default).1 = bs at *
      clear c1
      go_wp2_with fail
      refine hc.mono ?_
      clear hc
      rintro e w2 ⟨⟨v', rfl, ho⟩, hb2⟩
      have hn := needs_any bs.length w2 hbl
      have hb3 := hb.trans (hb2.mono hb.size)
      obtain ⟨po, co, rfl⟩ := ho.shape
      clear ho hb2
      generalize bs.length = lb at *
      generalize need lb = nl at *
      go_wp2_with fail
      refine same_mono hn ?_
      clear hn
      go_wp2
      go_roundw
      case rel => exact ⟨j + 1, by omega, by simp, by rw [hst.out]; simp, hb3⟩
      case measure => simp only [intOf]; omega
    · obtain rfl : j = tl.length := by omega
      rw [List.take_length]
      have d3 := (hb.cell (p := ⟨r, 3, none⟩) hlt).trans c3
      clear c1 c3
      cases off
      · go_wp2
        go_ret
        exact ⟨rfl, hb⟩
      · go_wp2
        go_ret
        exact ⟨rfl, hb⟩
end
end Go.Proofs.Ytefgnehahedckaa
