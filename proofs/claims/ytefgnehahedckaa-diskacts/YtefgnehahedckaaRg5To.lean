import Derived.Test.YtefgnehahedckaaRg3To
/-
  The document's own disk: gone.
-/
namespace Go.Proofs.Ytefgnehahedckaa
open Go.RowKit Go.Maps

theorem take_filter8 {t : List Tr} {j : Nat} (h : j < t.length) (x : ByteArray) : (t.take (j + 1)).filter (fun f => decide (f.1 ≠ x)) = (t.take j).filter (fun f => decide (f.1 ≠ x)) ++ if (t.getD j default).1 = x then [] else [t.getD j default] := by
  rw [List.take_succ_eq_append_getElem h, List.filter_append, List.getD_eq_getElem?_getD, List.getElem?_eq_getElem h]
  congr 1
  by_cases hx : (t[j]).1 = x
  · rw [List.filter_cons_of_neg (by simpa using hx), List.filter_nil]
    exact (if_pos hx).symm
  · rw [List.filter_cons_of_pos (by simpa using hx), List.filter_nil]
    exact (if_neg hx).symm
theorem trs_one8 (f : Tr) : trs [f] = [.string f.1, f.2.1] := rfl
section
variable {w : World} {r : Nat} {S : Nat → Prop} {vl vb : Value} {tl tb : List Tr} {blocks : Nat} {off : Bool} {ops : Nat} {n keep : Int}
set_option maxRecDepth 10000 in
set_option maxHeartbeats 4000000 in
theorem rgone_any (h : RefLies w r S vl vb tl tb blocks off ops n keep) (hS : ∀ k, w.heap.size ≤ k → S k) {i : Nat} (hi : i < tl.length) (hnd : (nms (trM tl)).Nodup) (hl : tl.length ≤ 16777216) (hlb : tb.length ≤ 1099511627776) {x : ByteArray} (hx : (tl.getD i default).1 = x) :
    Calls Try.prog 66 #[.pointer (some ⟨r, 0, none⟩), .int .i64 (i : Nat)] w fun e w' => (∃ v, e = .returned v) ∧ (∃ vl' vb' tl' tb', RefLies w' r S vl' vb' tl' tb' blocks off ops n keep ∧ trM tl' = ((trM tl).filter fun f => decide (f.1 ≠ x)) ∧ trM tb' = ((trM tb).filter fun f => decide (f.1 ≠ x))) ∧ Turn S w w' := by
  obtain ⟨-, c1, -⟩ := h.cells
  have hlt := h.lt
  obtain ⟨g, c, rfl, hc, hg, a0, -⟩ := tr_at h.rowL hi
  have hml : Hid (trM (tl.take i ++ tl.drop (i + 1)) = (trM tl).filter fun f => decide (f.1 ≠ x)) := by
    show _ = _
    rw [trM_append, trM_take, trM_drop]
    exact erase_filter8 hnd (by rw [trM_at hi, hx])
  rw [hx] at a0
  have hcut1 := hasQ_head h.rowL (i := i) (by omega)
  obtain ⟨p2, hif, hcut2⟩ := hasQ_rest h.rowL hi
  have one1 := trs_ones (ByQ.sub h.byL fun f hf => List.mem_of_mem_take hf : ByQ w S (tl.take i))
  have one2 := trs_ones (ByQ.sub h.byL fun f hf => List.mem_of_mem_drop hf : ByQ w S (tl.drop (i + 1)))
  have hnew : Hid (∀ w8 v8, w8.ownsRow w.heap.size 94 2 v8 (0 + i + (tl.length - (i + 1))) ([] ++ trs (tl.take i) ++ trs (tl.drop (i + 1))) → Below w.heap.size w w8 →
      RefLies (w8.setCell ⟨r, 1, none⟩ v8) r S v8 vb (tl.take i ++ tl.drop (i + 1)) tb blocks off ops n keep ∧ Turn S w (w8.setCell ⟨r, 1, none⟩ v8) ∧ w8.frozen? ⟨r, 1, none⟩ = false ∧ w8.cell? ⟨r, 1, none⟩ = some (.slice (some ⟨g, 0, none⟩) tl.length c)) := by
    intro w8 v8 ho hb
    have h2 := h.below hb
    obtain ⟨-, d1, -⟩ := h2.cells
    have hlen : (tl.take i ++ tl.drop (i + 1)).length = 0 + i + (tl.length - (i + 1)) := by rw [List.length_append, List.length_take, List.length_drop]; omega
    have hrow : RowQ w8 w.heap.size 94 v8 (tl.take i ++ tl.drop (i + 1)) := by
      unfold RowQ
      rw [hlen, trs_append]
      exact ho
    refine ⟨h2.swapL (row_base hrow (Nat.zero_le _)) (fun k hk => hS k (World.ownsRow.lt hrow k hk).1) (ByQ.sub h2.byL fun f hf => (List.mem_append.1 hf).elim List.mem_of_mem_take List.mem_of_mem_drop), (Turn.of_below hb (Nat.le_refl _)).setCell (p := ⟨r, 1, none⟩) (.inl h.sR) _, h2.free 1, d1⟩
  have hi1 : (i : Int) < (tl.length : Int) := by omega
  have hqc : i ≤ c := by omega
  have hq1 : i + 1 ≤ tl.length := by omega
  have hq2 : (i : Int) + 1 ≤ (tl.length : Int) := by omega
  have hq3 : ((i : Int) + 1).toNat = i + 1 := by omega
  have hq4 : (0 : Int) ≤ (i : Int) + 1 := by omega
  have hwq : IntKind.i64.wrap ((i : Int) + 1) = (i : Int) + 1 := by rw [IntKind.wrap_i64]; omega
  have hl1 : 0 + i ≤ 1099511627776 := by omega
  have hl2 : (0 + i) * 40 ≤ 140737488355328 := by omega
  have hl3 : 0 + i + (tl.length - (i + 1)) ≤ 1099511627776 := by omega
  have hl4 : (0 + i + (tl.length - (i + 1))) * 40 ≤ 140737488355328 := by omega
  clear h hnd hx
  go_enter Try.func66, Try.ntmps66
  go_wp2_with fail
  apply once_proved9
  case main =>
    intro key
    go_region_law (first
      | (refine step_row8 elemF8 _ rfl (.tmp 17) (.tmp 23) rfl (w6 := w) (by first | exact ext_alloc8 (ext_drew8 _) _ | exact ext_on8 (ext_alloc8 (Below.refl _ _) _) | exact ext_alloc8 (Below.refl _ _) _) _ _ 0 i [] _ rfl rfl hcut1 one1 (by first | exact row_none9 w w.drew _ _ (Nat.le_refl _) | exact row_none9 w w _ _ (Nat.le_refl _) | exact row_none8 _ _ _) hl1 hl2 ?_; intro v7 w7 ho7 hb7; have b1 := (hb7.cell (p := ⟨r, 1, none⟩) hlt).trans c1)
      | (refine step_row8 elemF8 _ rfl (.tmp 24) (.tmp 31) rfl hb7 _ _ (0 + i) (tl.length - (i + 1)) _ _ rfl rfl hcut2 one2 ho7 hl3 hl4 ?_; intro v8 w8 ho8 hb8; have hst := hnew.out w8 _ ho8 hb8; obtain ⟨p8, q8, rfl⟩ := writes_shape ho8; obtain ⟨HR, HT, f18, c18⟩ := hst; have HRR : Hid _ := HR; clear HR))
    all_goals
      revert v7 w7 ho7 hb7 b1 p8 q8 w8
      exact key.out
  case proof =>
    intro v7 w7 ho7 hb7 b1 w8 hb8 p8 q8 ho8 HT f18 c18 HRR
    have h2 := HRR.out
    rw [Nat.zero_add] at h2 HT
    clear HRR hnew ho7 hb7 b1 ho8 hb8 f18 c18 hif hcut1 hcut2 one1 one2 hl1 hl2 hl3 hl4 hq1 hq2 hq3 hq4 hwq hqc c1 a0
    generalize w8.setCell ⟨r, 1, none⟩ (.slice p8 (i + (tl.length - (i + 1))) q8) = W at *
    obtain ⟨-, -, c2, -⟩ := h2.cells
    obtain ⟨pb, cb, rfl, hcb⟩ := tr_shape h2.rowB
    have hltW := h2.lt
    have hS2 : Hid (∀ k, W.heap.size ≤ k → S k) := fun k hk => hS k (Nat.le_trans HT.size hk)
    have HT' : Hid (Turn S w W) := HT
    clear hS HT
    go_wp2
    go_loopw [40, 5] (fun t s wr => ∃ (j : Nat) (tq : List Tr), j ≤ tb.length ∧ t = .int .i64 (j : Nat) ∧ Hid (tq = (tb.take j).filter fun f => decide (f.1 ≠ x)) ∧ RowQ wr W.heap.size 96 s tq ∧ Below W.heap.size W wr) (fun t _ _ => tb.length - (intOf t).toNat)
    case atStart => exact ⟨0, [], by omega, rfl, rfl, World.ownsRow_nil _ _ _ _, Below.refl _ _⟩
    case round =>
      clear c2
      obtain ⟨j, tq, hj, rfl, htq, ho, hb⟩ := hrel
      by_cases hjl : j < tb.length
      · obtain ⟨gb, c', e, _, hgb, d0, d1⟩ := tr_at (h2.below hb).rowB hjl
        simp only [Value.slice.injEq] at e
        obtain ⟨rfl, -, rfl⟩ := e
        obtain ⟨pu, cu, hu⟩ := (h2.byB _ (getD_mem8 hjl)).1.shape
        have htk := take_filter8 hjl x
        rw [← htq.out] at htk
        have hq : tq.length ≤ j := by
          rw [htq.out]
          refine Nat.le_trans (List.length_filter_le _ _) ?_
          rw [List.length_take]; omega
        generalize tb.getD j default = Y at *
        obtain ⟨y, uy, by_⟩ := Y
        dsimp only at hu d0 d1 htk
        subst hu
        have htk' : Hid _ := htk
        clear htk
        generalize by_.length = lu at *
        by_cases hxy : y = x
        · subst hxy
          have hsame : Hid (tq = (tb.take (j + 1)).filter fun f => decide (f.1 ≠ y)) := by show _ = _; rw [htk'.out, if_pos rfl, List.append_nil]
          have hfin : Hid (RowQ (wr.alloc (.cells #[.string y, .slice pu lu cu] 96)) W.heap.size 96 u5 tq) :=
            row_same ho fun k hk => Below.heap_alloc _ _ _ (World.ownsRow.lt ho k hk).2
          obtain ⟨po, co, rfl⟩ := writes_shape ho
          clear ho htk'
          go_wp2
          go_roundw
          case rel => exact ⟨j + 1, tq, by omega, by simp, hsame, hfin.out, hb.alloc hb.size _⟩
          case measure => simp only [intOf]; omega
        · have hne := str_ne8 hxy
          have hb2 := (hb.alloc hb.size (.cells #[.string y, .slice pu lu cu] 96)).alloc (Nat.le_trans hb.size (by simp)) (.cells #[.string y, .slice pu lu cu] 96)
          have hal := ((Below.refl wr.heap.size wr).alloc (Nat.le_refl _) (.cells #[.string y, .slice pu lu cu] 96)).alloc (by simp) (.cells #[.string y, .slice pu lu cu] 96)
          have ho2 := row_same (w' := (wr.alloc (.cells #[.string y, .slice pu lu cu] 96)).alloc (.cells #[.string y, .slice pu lu cu] 96)) ho fun k hk => hal.block k (World.ownsRow.lt ho k hk).2
          have hR := hasR_lit (w := (wr.alloc (.cells #[.string y, .slice pu lu cu] 96)).alloc (.cells #[.string y, .slice pu lu cu] 96)) (k := wr.heap.size + 1) (size := 2) (xs := [.string y, .slice pu lu cu]) (e := 96) (f := (0, 0)) (by
            show ((wr.heap.push _).push _)[wr.heap.size + 1]? = _
            rw [show wr.heap.size + 1 = (wr.heap.push (Obj.cells #[.string y, .slice pu lu cu] 96)).size from (Array.size_push _).symm, Array.getElem?_push_size]) 1 1 rfl (Nat.le_refl _)
          obtain ⟨po, co, rfl⟩ := writes_shape ho
          have hq1 : tq.length + 1 ≤ 1099511627776 := by omega
          have hq2 : (tq.length + 1) * 40 ≤ 140737488355328 := by omega
          have hones : ∀ u ∈ [Value.string y, .slice pu lu cu], u.oneCell' = true := by intro z hz; simp at hz; rcases hz with rfl | rfl <;> rfl
          clear ho hq hxy
          go_wp2_with (at_builtin; refine ap_row elemQ8 _ rfl _ _ rfl W.heap.size _ _ tq.length 1 (trs tq) [.string y, .slice pu lu cu] rfl rfl hR hones ho2 hq1 hq2 hb2.size ?_; intro v2 w2 hown2 hgrow2 hwh2; refine Halt8.out ?_)
          have HB3 : Hid (Below W.heap.size W w2) := hb2.trans ((Below.refl _ _).grown hgrow2 hb2.size fun k hk => (World.ownsRow.lt ho2 k hk).1)
          have hsame : Hid (tq ++ [(y, .slice pu lu cu, by_)] = (tb.take (j + 1)).filter fun f => decide (f.1 ≠ x)) := by show _ = _; rw [htk'.out, if_neg (fun e => by rw [e] at hne; simp at hne)]
          have HO3 : Hid (RowQ w2 W.heap.size 96 v2 (tq ++ [(y, .slice pu lu cu, by_)])) := by
            show RowQ _ _ _ _ _
            unfold RowQ
            rw [List.length_append, trs_append]
            exact hown2
          obtain ⟨p3, c3, rfl⟩ := writes_shape hown2
          clear hgrow2 hwh2 hown2 hR ho2 hb2 hal htk'
          constructor
          go_wp2
          go_roundw
          case rel => exact ⟨j + 1, _, by omega, by simp, hsame, HO3.out, HB3.out⟩
          case measure => simp only [intOf]; omega
      · obtain rfl : j = tb.length := by omega
        have htq' : Hid (trM tq = (trM tb).filter fun f => decide (f.1 ≠ x)) := by
          show _ = _
          rw [htq.out, List.take_length, trM_filter]
        have hsub : ∀ f ∈ tq, f ∈ tb := fun f hf => by
          rw [htq.out, List.take_length] at hf
          exact (List.mem_filter.1 hf).1
        have h3 := h2.below hb
        obtain ⟨-, -, d2, -⟩ := h3.cells
        have f2 := h3.free 2
        have h4 := h3.swapB (row_base ho (Nat.zero_le _)) (fun k hk => hS2.out k (World.ownsRow.lt ho k hk).1) (ByQ.sub h3.byB hsub)
        obtain ⟨po, co, rfl⟩ := writes_shape ho
        have t4 := (HT'.out.trans (Turn.of_below hb (Nat.le_refl _))).setCell (p := ⟨r, 2, none⟩) (.inl h3.sR) (.slice po tq.length co)
        have h4' : Hid _ := h4
        clear ho h3 h2 h4 hsub htq
        go_wp2
        go_end0
        exact ⟨⟨_, rfl⟩, ⟨_, _, _, _, h4'.out, hml.out, htq'.out⟩, t4⟩
end
end Go.Proofs.Ytefgnehahedckaa

/-
  The document's own disk: put.
-/
namespace Go.Proofs.Ytefgnehahedckaa
open Go.RowKit Go.Maps

/-- A file among the others, by names. -/
def insT (F : Tr) : List Tr → List Tr
  | [] => [F]
  | f :: r => if ltT F.1 f.1 = true then F :: f :: r else f :: insT F r
theorem trM_ins (F : Tr) : ∀ t : List Tr, trM (insT F t) = insF F.1 F.2.2 (trM t)
  | [] => rfl
  | f :: r => by
    have ih := trM_ins F r
    show trM (if ltT F.1 f.1 = true then F :: f :: r else f :: insT F r) = if ltT F.1 f.1 = true then (F.1, F.2.2) :: (f.1, f.2.2) :: trM r else (f.1, f.2.2) :: insF F.1 F.2.2 (trM r)
    split
    · rfl
    · show (f.1, f.2.2) :: trM (insT F r) = _
      rw [ih]
def anyT (F : Tr) (t : List Tr) : Bool := t.any fun f => ltT F.1 f.1
theorem anyT_snoc (F : Tr) (t : List Tr) (f : Tr) : anyT F (t ++ [f]) = (anyT F t || ltT F.1 f.1) := by simp [anyT]
theorem insT_yes {F : Tr} : ∀ {t : List Tr} (s : List Tr), anyT F t = true → insT F (t ++ s) = insT F t ++ s
  | [], s, h => by simp [anyT] at h
  | f :: r, s, h => by
    rw [List.cons_append, insT, insT]
    by_cases hf : ltT F.1 f.1 = true
    · rw [if_pos hf, if_pos hf]; rfl
    · rw [if_neg hf, if_neg hf, insT_yes (t := r) s (by simpa [anyT, hf] using h)]; rfl
theorem insT_no {F : Tr} : ∀ {t : List Tr} (s : List Tr), anyT F t = false → insT F (t ++ s) = t ++ insT F s
  | [], s, h => rfl
  | f :: r, s, h => by
    have h' : ltT F.1 f.1 = false ∧ anyT F r = false := by simpa [anyT] using h
    rw [List.cons_append, insT, if_neg (by rw [h'.1]; decide), insT_no (t := r) s h'.2]; rfl
def halfT (F : Tr) (t : List Tr) : List Tr := if anyT F t = true then insT F t else t
theorem halfT_yes {F : Tr} {t : List Tr} {f : Tr} (h : anyT F t = true) : halfT F t ++ [f] = halfT F (t ++ [f]) := by
  unfold halfT
  rw [anyT_snoc, h, if_pos rfl, Bool.true_or, if_pos rfl, insT_yes _ h]
theorem halfT_in {F : Tr} {t : List Tr} {f : Tr} (h : anyT F t = false) (hf : ltT F.1 f.1 = true) : (halfT F t ++ [F]) ++ [f] = halfT F (t ++ [f]) := by
  unfold halfT
  rw [anyT_snoc, h, if_neg (by decide), hf, Bool.false_or, if_pos rfl, insT_no _ h, insT, if_pos hf, List.append_assoc]
  rfl
theorem halfT_on {F : Tr} {t : List Tr} {f : Tr} (h : anyT F t = false) (hf : ltT F.1 f.1 = false) : halfT F t ++ [f] = halfT F (t ++ [f]) := by
  unfold halfT
  rw [anyT_snoc, h, if_neg (by decide), hf, Bool.false_or, if_neg (by decide)]
theorem halfT_end {F : Tr} {t : List Tr} (h : anyT F t = false) : halfT F t ++ [F] = insT F t := by
  unfold halfT
  have := insT_no (F := F) (t := t) [] h
  rw [List.append_nil] at this
  rw [h, if_neg (by decide), this]
  rfl
theorem halfT_done {F : Tr} {t : List Tr} (h : anyT F t = true) : halfT F t = insT F t := by
  unfold halfT
  rw [if_pos h]
theorem insT_mem {F : Tr} : ∀ {t : List Tr} {f : Tr}, f ∈ insT F t → f = F ∨ f ∈ t
  | [], f, h => .inl (List.mem_singleton.1 h)
  | g :: r, f, h => by
    rw [insT] at h
    split at h
    · rcases List.mem_cons.1 h with h | h
      · exact .inl h
      · exact .inr h
    · rcases List.mem_cons.1 h with h | h
      · exact .inr (by rw [h]; exact List.mem_cons_self)
      · exact (insT_mem h).imp id fun h => List.mem_cons_of_mem _ h
theorem insT_len (F : Tr) : ∀ t : List Tr, (insT F t).length = t.length + 1
  | [] => rfl
  | f :: r => by
    rw [insT]
    split
    · rfl
    · rw [List.length_cons, insT_len F r, List.length_cons]
theorem halfT_len (F : Tr) (t : List Tr) : (halfT F t).length ≤ t.length + 1 := by
  unfold halfT
  split
  · rw [insT_len]; omega
  · omega
theorem take_snocT {t : List Tr} {j : Nat} (h : j < t.length) : t.take (j + 1) = t.take j ++ [t.getD j default] := by
  rw [List.take_succ_eq_append_getElem h, List.getD_eq_getElem?_getD, List.getElem?_eq_getElem h]
  rfl
theorem gtr_any8 (t : TypeId) (y x : ByteArray) (W : World) : (binOp .gtr t (.string y) (.string x)).run Try.prog W = .ok (.bool (ltT x y)) W := by
  have h : (!(Op.bytesLess y.toList x.toList || y.toList == x.toList)) = ltT x y := by
    cases h1 : ltT x y with
    | true =>
      have h2 : Op.bytesLess y.toList x.toList = false := ltT_asymm h1
      rw [h2, str_ne8 fun e => by rw [e, ltT_irrefl] at h1; cases h1]
      rfl
    | false =>
      cases h2 : ltT y x with
      | true =>
        have h3 : Op.bytesLess y.toList x.toList = true := h2
        rw [h3]; rfl
      | false =>
        rw [ltT_tri h2 h1]; simp
  rw [← h]
  simp [binOp, Op.stringOp]
/-- A row with one more, just appended. -/
theorem RowQ.snoc {w : World} {B : Nat} {e : TypeId} {v : Value} {t : List Tr} {f : Tr} (h : w.ownsRow B e 2 v (t.length + 1) (trs t ++ [.string f.1, f.2.1])) : RowQ w B e v (t ++ [f]) := by
  unfold RowQ
  rw [List.length_append, trs_append]
  exact h
theorem heap_two8 (w : World) (o o' : Obj) : ((w.alloc o).alloc o').heap[w.heap.size + 1]? = some o' := by
  show ((w.heap.push o).push o')[w.heap.size + 1]? = _
  rw [show w.heap.size + 1 = (w.heap.push o).size from (Array.size_push _).symm, Array.getElem?_push_size]
section
variable {w : World} {r : Nat} {S : Nat → Prop} {vl vb : Value} {tl tb : List Tr} {blocks : Nat} {off : Bool} {ops : Nat} {n keep : Int}
set_option maxRecDepth 10000 in
set_option maxHeartbeats 4000000 in
theorem rput_any (h : RefLies w r S vl vb tl tb blocks off ops n keep) (hS : ∀ k, w.heap.size ≤ k → S k) {x : ByteArray} {v : Value} {bs : List Int} (hv : Owns w 0 5 v bs) (hvS : ∀ g, v.ownBlock = some g → S g) (hl : tl.length ≤ 16777216) :
    Calls Try.prog 67 #[.pointer (some ⟨r, 0, none⟩), .agg #[.string x, v]] w fun e w' => (∃ v, e = .returned v) ∧ (∃ vl', RefLies w' r S vl' vb (insT (x, v, bs) tl) tb blocks off ops n keep) ∧ Turn S w w' := by
  obtain ⟨-, c1, -⟩ := h.cells
  have hlt := h.lt
  obtain ⟨p, c, rfl, hc⟩ := tr_shape h.rowL
  obtain ⟨pv, cv, e⟩ := hv.shape
  obtain ⟨F, hF⟩ : ∃ F : Tr, F = (x, v, bs) := ⟨_, rfl⟩
  rw [← hF]
  have hF' : Hid (F = (x, v, bs)) := hF
  have hv' : Hid (Owns w 0 5 v bs) := hv
  have hS' : Hid (∀ k, w.heap.size ≤ k → S k) := hS
  have hvS' : Hid (∀ g, v.ownBlock = some g → S g) := hvS
  have ev : Hid (v = .slice pv bs.length cv) := e
  rw [e]
  clear hF hv e hS hvS
  have hx : Hid (x = F.1) := by show _ = _; rw [hF'.out]
  have hvF : Hid (F.2.1 = .slice pv bs.length cv) := by show _ = _; rw [hF'.out]; exact ev.out
  have hbA : Below w.heap.size w (w.alloc (.cells #[.string x, .slice pv bs.length cv] 94)) := (Below.refl _ _).alloc (Nat.le_refl _) _
  have hA := heap_alloc_new w (.cells #[.string x, .slice pv bs.length cv] 94)
  have hsz : w.heap.size < (w.alloc (.cells #[.string x, .slice pv bs.length cv] 94)).heap.size := by simp
  have h1 := h.below hbA
  have hend : Hid (∀ wr s, Below (w.alloc (.cells #[.string x, .slice pv bs.length cv] 94)).heap.size (w.alloc (.cells #[.string x, .slice pv bs.length cv] 94)) wr → RowQ wr (w.alloc (.cells #[.string x, .slice pv bs.length cv] 94)).heap.size 94 s (insT F tl) →
      (∃ v1, wr.cell? ⟨r, 1, none⟩ = some v1) ∧ wr.frozen? ⟨r, 1, none⟩ = false ∧ RefLies (wr.setCell ⟨r, 1, none⟩ s) r S s vb (insT F tl) tb blocks off ops n keep ∧ Turn S w (wr.setCell ⟨r, 1, none⟩ s)) := by
    intro wr s hb hrow
    have h2 := h1.below hb
    obtain ⟨-, d1, -⟩ := h2.cells
    have hb2 := hbA.trans (hb.mono hbA.size)
    refine ⟨⟨_, d1⟩, h2.free 1, h2.swapL (row_base hrow (Nat.zero_le _)) (fun k hk => hS'.out k (Nat.le_trans hbA.size (World.ownsRow.lt hrow k hk).1)) (fun f hf => ?_), (Turn.of_below hb2 (Nat.le_refl _)).setCell (p := ⟨r, 1, none⟩) (.inl h.sR) _⟩
    rcases insT_mem hf with rfl | hf
    · rw [hF'.out]
      exact ⟨hv'.out.below hb2 (Nat.le_refl _), hvS'.out⟩
    · exact h2.byL f hf
  go_enter Try.func67, Try.ntmps67
  go_wp2
  generalize hW : w.alloc (.cells #[.string x, .slice pv bs.length cv] 94) = W at *
  have hW' : Hid _ := hW
  clear hW
  generalize w.heap.size = bx at *
  go_loopw [13, 4, 5] (fun t s d wr => ∃ (j : Nat) (tq : List Tr) (b : Bool), j ≤ tl.length ∧ t = .int .i64 (j : Nat) ∧ d = .bool b ∧ Hid (b = anyT F (tl.take j)) ∧ Hid (tq = halfT F (tl.take j)) ∧ RowQ wr W.heap.size 94 s tq ∧ Below W.heap.size W wr) (fun t _ _ _ => tl.length - (intOf t).toNat)
  case atStart => exact ⟨0, [], false, by omega, rfl, rfl, rfl, rfl, World.ownsRow_nil _ _ _ _, Below.refl _ _⟩
  case round =>
    obtain ⟨j, tq, b, hj, rfl, rfl, hbj, htq, ho, hb⟩ := hrel
    clear c1
    by_cases hjl : j < tl.length
    · obtain ⟨g, c', e, _, hg, d0, d1⟩ := tr_at (h1.below hb).rowL hjl
      simp only [Value.slice.injEq] at e
      obtain ⟨rfl, -, rfl⟩ := e
      obtain ⟨pu, cu, hu⟩ := (h1.byL _ (getD_mem8 hjl)).1.shape
      have htk := take_snocT hjl
      have hX : wr.heap[bx]? = _ := (hb.block bx hsz).trans hA
      have hbx : bx < wr.heap.size := Nat.lt_of_lt_of_le hsz hb.size
      have e0 : wr.cell? ⟨bx, 0, none⟩ = some (.string x) := by simp [World.cell?, hX]
      have e1 : wr.cell? ⟨bx, 1, none⟩ = some (.slice pv bs.length cv) := by simp [World.cell?, hX]
      have hq : tq.length ≤ 16777217 := by
        rw [htq.out]
        have := halfT_len F (tl.take j)
        rw [List.length_take] at this
        omega
      generalize tl.getD j default = Y at *
      obtain ⟨y, uy, by_⟩ := Y
      dsimp only at hu d0 d1 htk
      subst hu
      have htk' : Hid _ := htk
      clear htk
      have hYc : Hid (trs [((y, .slice pu by_.length cu, by_) : Tr)] = [.string y, .slice pu by_.length cu]) := rfl
      generalize hlu : by_.length = lu at *
      have hlu' : Hid (by_.length = lu) := hlu
      clear hlu
      have hb2 := hb.alloc hb.size (.cells #[.string y, .slice pu lu cu] 94)
      have ho2 := row_same (w' := wr.alloc (.cells #[.string y, .slice pu lu cu] 94)) ho fun k hk => Below.heap_alloc _ _ _ (World.ownsRow.lt ho k hk).2
      have hA2 := heap_alloc_new wr (.cells #[.string y, .slice pu lu cu] 94)
      obtain ⟨po, co, rfl⟩ := writes_shape ho
      have hq1 : tq.length + 1 ≤ 1099511627776 := by omega
      have hq2 : (tq.length + 1) * 40 ≤ 140737488355328 := by omega
      have hnx : ∀ k, (Value.slice po tq.length co).ownBlock = some k → k < wr.heap.size := fun k hk => (World.ownsRow.lt ho k hk).2
      have hnx' : Hid (∀ k, (Value.slice po tq.length co).ownBlock = some k → k < wr.heap.size) := hnx
      clear ho hX hnx
      have hsame : Hid (b = true ∨ ltT F.1 y = false → tq ++ [(y, .slice pu lu cu, by_)] = halfT F (tl.take (j + 1))) := by
        intro hor
        rw [htk'.out, htq.out]
        cases hb0 : anyT F (tl.take j) with
        | true => exact halfT_yes hb0
        | false =>
          refine halfT_on hb0 (hor.resolve_left fun e => ?_)
          rw [hbj.out, hb0] at e
          cases e
      have hany : Hid (anyT F (tl.take (j + 1)) = (b || ltT F.1 y)) := by show _ = _; rw [htk'.out, anyT_snoc, hbj.out]
      cases hlt2 : ltT F.1 y with
      | true =>
        have hcmp : ∀ W, (binOp .gtr 9 (.string y) (.string x)).run Try.prog W = .ok (.bool true) W := fun W => by rw [gtr_any8, hx.out, hlt2]
        rw [hlt2] at hany
        have hlt3 : Hid (ltT F.1 y = true) := hlt2
        clear hlt2
        go_upto_if 25 with fail
        go_cut [4, 5] (fun s d wc => ∃ tz b', d = .bool b' ∧ Hid (b' = anyT F (tl.take (j + 1))) ∧ RowQ wc W.heap.size 94 s tz ∧ tz.length ≤ 16777218 ∧ Hid (tz ++ [(y, .slice pu lu cu, by_)] = halfT F (tl.take (j + 1))) ∧ Below W.heap.size W wc ∧ wc.heap[wr.heap.size]? = some (.cells #[.string y, .slice pu lu cu] 94 (0, 0)))
        case first =>
          cases b with
          | true =>
            have hok := hsame.out (.inl rfl)
            have hok' : Hid _ := hok
            clear hok hsame
            go_wp2
            go_meet
            case rel => exact ⟨tq, true, rfl, by show _ = _; rw [hany.out]; rfl, ho2, by omega, hok', hb2, hA2⟩
          | false =>
            have hok : Hid ((tq ++ [F]) ++ [(y, .slice pu lu cu, by_)] = halfT F (tl.take (j + 1))) := by
              show _ = _
              rw [htk'.out, htq.out]
              exact halfT_in hbj.out.symm hlt3.out
            have hal := (Below.refl (wr.alloc (.cells #[.string y, .slice pu lu cu] 94)).heap.size (wr.alloc (.cells #[.string y, .slice pu lu cu] 94))).alloc (Nat.le_refl _) (.cells #[.string x, .slice pv bs.length cv] 94)
            have hb3 := hb2.alloc hb2.size (.cells #[.string x, .slice pv bs.length cv] 94)
            have ho3 := row_same (w' := (wr.alloc (.cells #[.string y, .slice pu lu cu] 94)).alloc (.cells #[.string x, .slice pv bs.length cv] 94)) ho2 fun k hk => hal.block k (World.ownsRow.lt ho2 k hk).2
            have hR := hasR_lit (w := (wr.alloc (.cells #[.string y, .slice pu lu cu] 94)).alloc (.cells #[.string x, .slice pv bs.length cv] 94)) (k := wr.heap.size + 1) (size := 2) (xs := [.string x, .slice pv bs.length cv]) (e := 94) (f := (0, 0)) (heap_two8 _ _ _) 1 1 rfl (Nat.le_refl _)
            have hones : ∀ u ∈ [Value.string x, .slice pv bs.length cv], u.oneCell' = true := by intro z hz; simp at hz; rcases hz with rfl | rfl <;> rfl
            clear hsame
            go_wp2_with (at_builtin; refine ap_row elemF8 _ rfl _ _ rfl W.heap.size _ _ tq.length 1 (trs tq) [.string x, .slice pv bs.length cv] rfl rfl hR hones ho3 hq1 hq2 hb3.size ?_; intro v2 w2 hown2 hgrow2 hwh2; refine Halt8.out ?_)
            have HB3 : Hid (Below W.heap.size W w2) := hb3.trans ((Below.refl _ _).grown hgrow2 hb3.size fun k hk => (World.ownsRow.lt ho3 k hk).1)
            have HO3 : Hid (RowQ w2 W.heap.size 94 v2 (tq ++ [F])) := by
              refine RowQ.snoc (f := F) ?_
              rw [hvF.out, ← hx.out]
              exact hown2
            have HX3 : Hid (w2.heap[wr.heap.size]? = some (.cells #[.string y, .slice pu lu cu] 94 (0, 0))) := by
              refine (hgrow2.block wr.heap.size (by simp; omega) fun e => ?_).trans ((hal.block wr.heap.size (by simp)).trans hA2)
              have := hnx'.out _ e.symm
              omega
            obtain ⟨p3, c3, rfl⟩ := writes_shape hown2
            clear hgrow2 hwh2 hown2 hR ho3 hb3 hal ho2 hb2
            constructor
            go_wp2
            go_meet
            case rel => exact ⟨tq ++ [F], true, rfl, by show _ = _; rw [hany.out]; rfl, HO3.out, by simp; omega, hok, HB3.out, HX3.out⟩
        case rest =>
          clear ho2 hb2 hA2 htq hbj hq hq1 hq2 hnx' e0 e1 htk'
          obtain ⟨tz, b', rfl, hb', ho2, hzl, hz, hb2, hX2⟩ := hcut
          generalize wr.heap.size = by2 at *
          have hlt2 : by2 < wc.heap.size := (Array.getElem?_eq_some_iff.1 hX2).1
          have e0 : wc.cell? ⟨by2, 0, none⟩ = some (.string y) := by simp [World.cell?, hX2]
          have e1 : wc.cell? ⟨by2, 1, none⟩ = some (.slice pu lu cu) := by simp [World.cell?, hX2]
          have hal := (Below.refl wc.heap.size wc).alloc (Nat.le_refl _) (.cells #[.string y, .slice pu lu cu] 94)
          have hb3 := hb2.alloc hb2.size (.cells #[.string y, .slice pu lu cu] 94)
          have ho3 := row_same (w' := wc.alloc (.cells #[.string y, .slice pu lu cu] 94)) ho2 fun k hk => hal.block k (World.ownsRow.lt ho2 k hk).2
          have hR := hasR_lit (size := 2) (xs := [.string y, .slice pu lu cu]) (heap_alloc_new wc (.cells #[.string y, .slice pu lu cu] 94)) 1 1 rfl (Nat.le_refl _)
          have hones : ∀ u ∈ [Value.string y, .slice pu lu cu], u.oneCell' = true := by intro z hz; simp at hz; rcases hz with rfl | rfl <;> rfl
          have hq1 : tz.length + 1 ≤ 1099511627776 := by omega
          have hq2 : (tz.length + 1) * 40 ≤ 140737488355328 := by omega
          obtain ⟨po, co, rfl⟩ := writes_shape ho2
          clear ho2 hX2
          go_wp2_with (at_builtin; refine ap_row elemF8 _ rfl _ _ rfl W.heap.size _ _ tz.length 1 (trs tz) [.string y, .slice pu lu cu] rfl rfl hR hones ho3 hq1 hq2 hb3.size ?_; intro v2 w2 hown2 hgrow2 hwh2; refine Halt8.out ?_)
          have HB3 : Hid (Below W.heap.size W w2) := hb3.trans ((Below.refl _ _).grown hgrow2 hb3.size fun k hk => (World.ownsRow.lt ho3 k hk).1)
          have HO3 : Hid (RowQ w2 W.heap.size 94 v2 (tz ++ [(y, .slice pu lu cu, by_)])) := RowQ.snoc (f := (y, .slice pu lu cu, by_)) hown2
          obtain ⟨p3, c3, rfl⟩ := writes_shape hown2
          clear hgrow2 hwh2 hown2 hR ho3 hb3 hal hb2
          constructor
          go_wp2
          go_roundw
          case rel => exact ⟨j + 1, _, b', by omega, by simp, rfl, hb', hz, HO3.out, HB3.out⟩
          case measure => simp only [intOf]; omega
      | false =>
        have hcmp : ∀ W, (binOp .gtr 9 (.string y) (.string x)).run Try.prog W = .ok (.bool false) W := fun W => by rw [gtr_any8, hx.out, hlt2]
        rw [hlt2, Bool.or_false] at hany
        have hok := hsame.out (.inr hlt2)
        have hok' : Hid _ := hok
        clear hlt2 hok hsame
        go_upto_if 25 with fail
        go_cut [4, 5] (fun s d wc => ∃ tz b', d = .bool b' ∧ Hid (b' = anyT F (tl.take (j + 1))) ∧ RowQ wc W.heap.size 94 s tz ∧ tz.length ≤ 16777218 ∧ Hid (tz ++ [(y, .slice pu lu cu, by_)] = halfT F (tl.take (j + 1))) ∧ Below W.heap.size W wc ∧ wc.heap[wr.heap.size]? = some (.cells #[.string y, .slice pu lu cu] 94 (0, 0)))
        case first =>
          go_wp2
          go_meet
          case rel => exact ⟨tq, b, rfl, by show _ = _; rw [hany.out], ho2, by omega, hok', hb2, hA2⟩
        case rest =>
          clear ho2 hb2 hA2 htq hbj hq hq1 hq2 hnx' e0 e1 htk'
          obtain ⟨tz, b', rfl, hb', ho2, hzl, hz, hb2, hX2⟩ := hcut
          generalize wr.heap.size = by2 at *
          have hlt2 : by2 < wc.heap.size := (Array.getElem?_eq_some_iff.1 hX2).1
          have e0 : wc.cell? ⟨by2, 0, none⟩ = some (.string y) := by simp [World.cell?, hX2]
          have e1 : wc.cell? ⟨by2, 1, none⟩ = some (.slice pu lu cu) := by simp [World.cell?, hX2]
          have hal := (Below.refl wc.heap.size wc).alloc (Nat.le_refl _) (.cells #[.string y, .slice pu lu cu] 94)
          have hb3 := hb2.alloc hb2.size (.cells #[.string y, .slice pu lu cu] 94)
          have ho3 := row_same (w' := wc.alloc (.cells #[.string y, .slice pu lu cu] 94)) ho2 fun k hk => hal.block k (World.ownsRow.lt ho2 k hk).2
          have hR := hasR_lit (size := 2) (xs := [.string y, .slice pu lu cu]) (heap_alloc_new wc (.cells #[.string y, .slice pu lu cu] 94)) 1 1 rfl (Nat.le_refl _)
          have hones : ∀ u ∈ [Value.string y, .slice pu lu cu], u.oneCell' = true := by intro z hz; simp at hz; rcases hz with rfl | rfl <;> rfl
          have hq1 : tz.length + 1 ≤ 1099511627776 := by omega
          have hq2 : (tz.length + 1) * 40 ≤ 140737488355328 := by omega
          obtain ⟨po, co, rfl⟩ := writes_shape ho2
          clear ho2 hX2
          go_wp2_with (at_builtin; refine ap_row elemF8 _ rfl _ _ rfl W.heap.size _ _ tz.length 1 (trs tz) [.string y, .slice pu lu cu] rfl rfl hR hones ho3 hq1 hq2 hb3.size ?_; intro v2 w2 hown2 hgrow2 hwh2; refine Halt8.out ?_)
          have HB3 : Hid (Below W.heap.size W w2) := hb3.trans ((Below.refl _ _).grown hgrow2 hb3.size fun k hk => (World.ownsRow.lt ho3 k hk).1)
          have HO3 : Hid (RowQ w2 W.heap.size 94 v2 (tz ++ [(y, .slice pu lu cu, by_)])) := RowQ.snoc (f := (y, .slice pu lu cu, by_)) hown2
          obtain ⟨p3, c3, rfl⟩ := writes_shape hown2
          clear hgrow2 hwh2 hown2 hR ho3 hb3 hal hb2
          constructor
          go_wp2
          go_roundw
          case rel => exact ⟨j + 1, _, b', by omega, by simp, rfl, hb', hz, HO3.out, HB3.out⟩
          case measure => simp only [intOf]; omega
    · obtain rfl : j = tl.length := by omega
      have hX : wr.heap[bx]? = _ := (hb.block bx hsz).trans hA
      have hbx : bx < wr.heap.size := Nat.lt_of_lt_of_le hsz hb.size
      have e0 : wr.cell? ⟨bx, 0, none⟩ = some (.string x) := by simp [World.cell?, hX]
      have e1 : wr.cell? ⟨bx, 1, none⟩ = some (.slice pv bs.length cv) := by simp [World.cell?, hX]
      have htq2 : Hid (tq = halfT F tl) := by have := htq.out; rwa [List.take_length] at this
      have hbj2 : Hid (b = anyT F tl) := by have := hbj.out; rwa [List.take_length] at this
      have hq : tq.length ≤ 16777217 := by
        rw [htq2.out]
        have := halfT_len F tl
        omega
      clear htq hbj
      cases b with
      | true =>
        rw [show tq = insT F tl from htq2.out.trans (halfT_done hbj2.out.symm)] at ho
        obtain ⟨⟨v1, k1⟩, k2, k3, k4⟩ := hend.out wr _ hb ho
        have k3' : Hid _ := k3
        obtain ⟨po, co, rfl⟩ := writes_shape ho
        clear ho k3 hend
        go_wp2
        go_end0
        exact ⟨⟨_, rfl⟩, ⟨_, k3'.out⟩, k4⟩
      | false =>
        have hal := (Below.refl wr.heap.size wr).alloc (Nat.le_refl _) (.cells #[.string x, .slice pv bs.length cv] 94)
        have hb3 := hb.alloc hb.size (.cells #[.string x, .slice pv bs.length cv] 94)
        have ho3 := row_same (w' := wr.alloc (.cells #[.string x, .slice pv bs.length cv] 94)) ho fun k hk => hal.block k (World.ownsRow.lt ho k hk).2
        have hR := hasR_lit (size := 2) (xs := [.string x, .slice pv bs.length cv]) (heap_alloc_new wr (.cells #[.string x, .slice pv bs.length cv] 94)) 1 1 rfl (Nat.le_refl _)
        have hones : ∀ u ∈ [Value.string x, .slice pv bs.length cv], u.oneCell' = true := by intro z hz; simp at hz; rcases hz with rfl | rfl <;> rfl
        have hq1 : tq.length + 1 ≤ 1099511627776 := by omega
        have hq2 : (tq.length + 1) * 40 ≤ 140737488355328 := by omega
        obtain ⟨po, co, rfl⟩ := writes_shape ho
        clear ho hX
        go_wp2_with (at_builtin; refine ap_row elemF8 _ rfl _ _ rfl W.heap.size _ _ tq.length 1 (trs tq) [.string x, .slice pv bs.length cv] rfl rfl hR hones ho3 hq1 hq2 hb3.size ?_; intro v2 w2 hown2 hgrow2 hwh2; refine Halt8.out ?_)
        have HB3 : Below W.heap.size W w2 := hb3.trans ((Below.refl _ _).grown hgrow2 hb3.size fun k hk => (World.ownsRow.lt ho3 k hk).1)
        have HO3 : RowQ w2 W.heap.size 94 v2 (tq ++ [F]) := by
          refine RowQ.snoc (f := F) ?_
          rw [hvF.out, ← hx.out]
          exact hown2
        rw [show tq ++ [F] = insT F tl by rw [htq2.out]; exact halfT_end hbj2.out.symm] at HO3
        obtain ⟨⟨v1, k1⟩, k2, k3, k4⟩ := hend.out w2 _ HB3 HO3
        have k3' : Hid _ := k3
        obtain ⟨p3, c3, rfl⟩ := writes_shape hown2
        clear hgrow2 hwh2 hown2 hR ho3 hb3 hal hb k3 hend HO3 HB3
        constructor
        go_wp2
        go_end0
        exact ⟨⟨_, rfl⟩, ⟨_, k3'.out⟩, k4⟩
end
end Go.Proofs.Ytefgnehahedckaa
