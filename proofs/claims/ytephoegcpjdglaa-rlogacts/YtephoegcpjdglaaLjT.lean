import Derived.Test.YtephoegcpjdglaaLjOTo
import Derived.Test.YtephoegcpjdglaaLiCTo
import Derived.Deep.DeepCutAuto
namespace Go.Proofs.Ytephoegcpjdglaa
open Go.RowKit Go.Shelf
attribute [local go_sem ↓] ldE_exec stE_exec ldE_execI stE_execI ldE_run ldE_box ldC_exec stC_exec ldC_execI stC_execI ldC_run oc_int oc_bool oc_string oc_slice oc_pointer
theorem drop_map13 {xs : List EntV} {j : Nat} (hj : j < xs.length) : (xs.drop j).map EntV.e = (xs.getD j noEV).e :: (xs.drop (j + 1)).map EntV.e := by
  rw [List.drop_eq_getElem_cons hj, List.map_cons, List.getD_eq_getElem?_getD, List.getElem?_eq_getElem hj, Option.getD_some]
theorem HasE.take13 {w : World} {s : Sl10} {es : List EntV} (h : HasE w s es) {p : Nat} (hp : p ≤ s.n) : HasE w ⟨s.p, p, s.c⟩ (es.take p) := by
  refine ⟨by rw [List.length_take, h.n]; exact Nat.min_eq_left hp, Nat.le_trans hp h.c, h.nl, fun h0 => ?_, fun e he => h.all e (List.mem_of_mem_take he)⟩
  have h0' : 0 < p := h0
  obtain ⟨g, o, h1, h2, h3⟩ := h.at' (by omega)
  refine ⟨g, o, h1, h2, fun i hi j hj => ?_⟩
  have hi' : i < p := hi
  have e1 : (es.take p).getD i noEV = es.getD i noEV := by rw [List.getD_eq_getElem?_getD, List.getD_eq_getElem?_getD, List.getElem?_take_of_lt hi']
  rw [e1]
  exact h3 i (by omega) j hj
section
variable {w0 w w' : World} {r : Nat} {G : Nat → Prop} {s : Sl10} {es : List EntV} {L L' : LG}
def Put13 (V Z : World) (r eb : Nat) (L : LG) (x : EntV) (p m : Nat) (vs : List Value) : Prop :=
  ∃ (w5 : World) (q : Option Addr) (n c : Nat), Below V.heap.size V w5 ∧ w5.ownsRow V.heap.size 51 13 (.slice q n c) (0 + p + m) vs ∧ Turn (fun k => k = r) w5 Z ∧ Z.heap[r]? = some (.cells (rfArr L ⟨q, n, c⟩) 38 (0, 0)) ∧ Z.heap[eb]? = some (.cells x.arr 51 (0, 0))
theorem rcut13 {V w5 : World} {L2 : LG} {p m n c : Nat} {q : Option Addr} {zs : List EntV} (h : RfG w0 w r G s es L) (hb : Below w.heap.size w V) (hb5 : Below V.heap.size V w5) (hp : p ≤ s.n)
    (ho : w5.ownsRow V.heap.size 51 13 (.slice q n c) (0 + p + m) ([] ++ entsV (es.take p) ++ entsV zs)) (hm : zs.length = m) (hz : ∀ e ∈ zs, FitsE w0 e) (hI : L2.Inv) (ht : L2.end ≤ 1125899906842624) (hl : L2.l = L.l.take p ++ zs.map EntV.e) (hT : Turn (fun k => k = r) w5 w')
    (hobj : w'.heap[r]? = some (.cells (rfArr L2 ⟨q, n, c⟩) 38 (0, 0))) (hs : p + m ≤ 837723144948) : RTurns13 w0 w r G L2 w' := by
  have hz0 := hb.size
  have hlt := h.lt
  have hn : n = 0 + p + m := row_n13 ho
  have hlen : (es.take p ++ zs).length = 0 + p + m := by rw [List.length_append, List.length_take, h.n, hm]; omega
  have ho2 : w5.ownsRow V.heap.size 51 13 (.slice q n c) (es.take p ++ zs).length (entsV (es.take p ++ zs)) := by
    rw [hlen, entsV_append]
    exact ho
  refine .of_row h (hb.trans (hb5.mono hz0)) hT (s' := ⟨q, n, c⟩) (ys := es.take p ++ zs) hobj hz0 (row_same ho2 fun g hg => hT.block g (World.ownsRow.lt ho2 g hg).2 (by have := (World.ownsRow.lt ho2 g hg).1; omega)) (fun y hy => ?_) ?_ hI ht (by show n ≤ _; omega)
  · rcases List.mem_append.1 hy with hy | hy
    · exact h.all y (List.mem_of_mem_take hy)
    · exact hz y hy
  · rw [List.map_append, List.map_take, h.map, hl]
attribute [local go_sem ↓] bsE_exec bsE_execI bsE_run
set_option maxRecDepth 100000 in
set_option maxHeartbeats 2000000 in
theorem rmatch13_any (h : RfG w0 w r G s es L) (i t : Int) (sx : Sl10) (xs : List EntV) (hE : HasE w0 sx xs) (hl : s.n + sx.n ≤ 837723144948) (htp : L.end + sx.n ≤ 1125899906842624) :
    Calls Try.prog 28 #[.pointer (some ⟨r, 0, none⟩), .int .i64 i, .int .i64 t, .slice sx.p sx.n sx.c] w fun e w' => e = .returned (.tuple #[.int .i64 (L.match_ i t (xs.map EntV.e)).1.1, .bool (L.match_ i t (xs.map EntV.e)).1.2]) ∧ RTurns13 w0 w r G (L.match_ i t (xs.map EntV.e)).2 w' := by
  have kt := rterm13_any h i
  have HH : Hid (RfG w0 w r G s es L) := h
  have HE : Hid (HasE w0 sx xs) := hE
  have HS : Hid (s.n + sx.n ≤ 837723144948 ∧ L.end + sx.n ≤ 1125899906842624 ∧ sx.n ≤ sx.c ∧ xs.length = sx.n) := ⟨hl, htp, hE.c, hE.n⟩
  have hxc := hE.c
  have hsx : sx.n ≤ 837723144948 := by omega
  obtain ⟨R, HR⟩ : ∃ R, Hid (L.match_ i t (xs.map EntV.e) = R) := ⟨_, rfl⟩
  rw [HR.out]
  obtain ⟨q, HQ⟩ : ∃ q, Hid (L.term i = q) := ⟨_, rfl⟩
  rw [HQ.out] at kt
  obtain ⟨tt, c⟩ := q
  dsimp only at kt
  have hz0 := h.bel.size
  clear h hE hl htp
  by_cases hc : c = 0 ∧ tt = t
  · obtain ⟨rfl, rfl⟩ := hc
    obtain ⟨hi0, hi1, -⟩ := LG.term_ok HQ.out
    have hx0 := HH.out.nums.x0
    have hxe := HH.out.nums.e1
    have wr : IntKind.i64.wrap (i + (sx.n : Int)) = i + (sx.n : Int) := by rw [IntKind.wrap_i64]; have := HS.out.2.1; omega
    obtain ⟨ch, HCh⟩ : ∃ ch, Hid (chain13 i tt (xs.map EntV.e) = ch) := ⟨_, rfl⟩
    have HK2 : Hid (∀ W, Below w.heap.size w W → Calls Try.prog 26 #[.int .i64 i, .int .i64 tt, .slice sx.p sx.n sx.c] W fun e w' => e = .returned (.bool ch) ∧ Below W.heap.size W w') := fun W hb => by
      have := rchain13_any W i tt sx xs (HE.out.below (HH.out.bel.trans (hb.mono hz0))) (by have := HS.out; omega) (by omega) (by omega)
      rw [HCh.out] at this
      exact this
    cases ch with
    | false =>
      have HF : Hid (R = ((0, false), L)) := by
        rw [Hid, ← HR.out]
        unfold LG.match_
        rw [if_neg]
        rintro ⟨-, h2⟩
        rw [HCh.out] at h2
        cases h2
      rw [HF.out]
      go_enter Try.func28, Try.ntmps28
      go_wp2_with fail
      refine kt.mono ?_
      rintro _ w2 ⟨rfl, hb2⟩
      have HB2 : Hid (Below w.heap.size w w2) := hb2
      have kf := HK2.out w2 hb2
      clear kt hb2
      go_wp2_with fail
      refine kf.mono ?_
      rintro _ w3 ⟨rfl, hb3⟩
      have HT : Hid (RTurns13 w0 w r G L w3) := .of_below HH.out (HB2.out.trans (hb3.mono HB2.out.size))
      clear kf hb3
      go_wp2
      go_ret2
      exact ⟨rfl, HT.out⟩
    | true =>
      go_enter Try.func28, Try.ntmps28
      go_wp2_with fail
      refine kt.mono ?_
      rintro _ w2 ⟨rfl, hb2⟩
      have HB2 : Hid (Below w.heap.size w w2) := hb2
      have kf := HK2.out w2 hb2
      clear kt hb2
      go_wp2_with fail
      refine kf.mono ?_
      rintro _ w3 ⟨rfl, hb3⟩
      have HB3 : Hid (Below w.heap.size w w3) := HB2.out.trans (hb3.mono HB2.out.size)
      have HD0 : Hid (Below w.heap.size w w3 ∧ L.diff (xs.map EntV.e) = L.diff ((xs.drop 0).map EntV.e)) := ⟨HB3.out, by rw [List.drop_zero]⟩
      clear kf hb3 HK2 HB3 HB2
      go_wp2
      go_loopw [38] (fun s38 wr => ∃ j : Nat, s38 = .int .i64 (j : Nat) ∧ j ≤ sx.n ∧ Hid (Below w.heap.size w wr ∧ L.diff (xs.map EntV.e) = L.diff ((xs.drop j).map EntV.e))) (fun s38 _ => sx.n - (intOf s38).toNat)
      case atStart => exact ⟨0, rfl, Nat.zero_le _, HD0⟩
      case round =>
        obtain ⟨j, rfl, hj, HD⟩ := hrel
        clear HD0
        by_cases hjn : j < sx.n
        · have hbr : Below w0.heap.size w0 wr := HH.out.bel.trans (HD.out.1.mono hz0)
          obtain ⟨g, o, hp, hg, hld⟩ := (HE.out.below hbr).ld hjn
          have hjl : j < xs.length := by rw [HS.out.2.2.2]; exact hjn
          have HFx : Hid (FitsE w0 (xs.getD j noEV)) := HE.out.all _ (getD_memE hjl)
          have HDj := drop_map13 hjl
          have HDx : Hid (L.diff (xs.map EntV.e) = if L.term (xs.getD j noEV).i = ((xs.getD j noEV).t, 0) then L.diff ((xs.drop (j + 1)).map EntV.e) else some ((xs.getD j noEV).e :: (xs.drop (j + 1)).map EntV.e)) := by
            rw [Hid, HD.out.2, HDj]
            rfl
          clear HDj
          obtain ⟨x, HX⟩ : ∃ x, Hid (xs.getD j noEV = x) := ⟨_, rfl⟩
          rw [HX.out] at HFx HDx hld
          have HDrop : Hid (∀ W, Below w0.heap.size w0 W → HasE W ⟨some ⟨g, o + j * 13, none⟩, sx.n - j, sx.c - j⟩ (xs.drop j)) := fun W hW => (HE.out.below hW).drop hjn hp
          rw [hp] at *
          have hbE := heap_alloc_new wr (.cells #[.int .i64 0, .int .i64 0, .int .i64 0, .int .i64 0, .int .i64 0, .int .i64 0, .string ⟨#[]⟩, .string ⟨#[]⟩, .string ⟨#[]⟩, .string ⟨#[]⟩, .int .i64 0, .slice none 0 0, .slice none 0 0] 51)
          have hth := there_box hbE 0 13 (Nat.le_refl _)
          have hst := stE_arr 0 x hth
          have hbE2 := setE_box x hbE rfl
          have hB2 : Below wr.heap.size wr ((wr.alloc (.cells #[.int .i64 0, .int .i64 0, .int .i64 0, .int .i64 0, .int .i64 0, .int .i64 0, .string ⟨#[]⟩, .string ⟨#[]⟩, .string ⟨#[]⟩, .string ⟨#[]⟩, .int .i64 0, .slice none 0 0, .slice none 0 0] 51)).setCells wr.heap.size 0 x.arr.toList) := setCells_below (Nat.le_refl _) _ _ ((Below.refl _ _).alloc (Nat.le_refl _) _)
          have hl2 := box_lt hbE2
          have y0 : ((wr.alloc (.cells #[.int .i64 0, .int .i64 0, .int .i64 0, .int .i64 0, .int .i64 0, .int .i64 0, .string ⟨#[]⟩, .string ⟨#[]⟩, .string ⟨#[]⟩, .string ⟨#[]⟩, .int .i64 0, .slice none 0 0, .slice none 0 0] 51)).setCells wr.heap.size 0 x.arr.toList).cell? ⟨wr.heap.size, 0, none⟩ = some (.int .i64 x.i) := box_cell hbE2 0
          have HBw : Hid (Below w.heap.size w ((wr.alloc (.cells #[.int .i64 0, .int .i64 0, .int .i64 0, .int .i64 0, .int .i64 0, .int .i64 0, .string ⟨#[]⟩, .string ⟨#[]⟩, .string ⟨#[]⟩, .string ⟨#[]⟩, .int .i64 0, .slice none 0 0, .slice none 0 0] 51)).setCells wr.heap.size 0 x.arr.toList)) := HD.out.1.trans (hB2.mono HD.out.1.size)
          have HbE : Hid _ := hbE2
          have k1 := rterm13_any (HH.out.below HBw.out) x.i
          obtain ⟨q, HQx⟩ : ∃ q, Hid (L.term x.i = q) := ⟨_, rfl⟩
          rw [HQx.out] at k1 HDx
          obtain ⟨tx, cx⟩ := q
          dsimp only at k1
          clear hbE hB2 hbr
          go_wp2_with fail
          generalize (wr.alloc (.cells #[.int .i64 0, .int .i64 0, .int .i64 0, .int .i64 0, .int .i64 0, .int .i64 0, .string ⟨#[]⟩, .string ⟨#[]⟩, .string ⟨#[]⟩, .string ⟨#[]⟩, .int .i64 0, .slice none 0 0, .slice none 0 0] 51)).setCells wr.heap.size 0 x.arr.toList = W2 at *
          clear hld hth hst y0
          refine k1.mono ?_
          rintro _ w4 ⟨rfl, hb4⟩
          have HB4 : Hid (Below w.heap.size w w4) := HBw.out.trans (hb4.mono HBw.out.size)
          have HbE4 : Hid _ := box_below HbE.out hb4
          generalize wr.heap.size = eb at *
          have y0 : w4.cell? ⟨eb, 0, none⟩ = some (.int .i64 x.i) := box_cell HbE4.out 0
          have y1 : w4.cell? ⟨eb, 1, none⟩ = some (.int .i64 x.t) := box_cell HbE4.out 1
          have hl4 := box_lt HbE4.out
          clear k1 hb4 HBw HbE hl2
          by_cases hcx : cx = 0 ∧ tx = x.t
          · obtain ⟨rfl, rfl⟩ := hcx
            have HN : Hid (Below w.heap.size w w4 ∧ L.diff (xs.map EntV.e) = L.diff ((xs.drop (j + 1)).map EntV.e)) := ⟨HB4.out, by rw [HDx.out, if_pos rfl]⟩
            go_wp2
            go_roundw
            case rel => exact ⟨j + 1, by go_num, by omega, HN⟩
            case measure => simp only [intOf]; omega
          · have HDs : Hid (L.diff (xs.map EntV.e) = some (x.e :: (xs.drop (j + 1)).map EntV.e)) := by
              rw [Hid, HDx.out, if_neg]
              intro h
              simp only [Prod.mk.injEq] at h
              exact hcx ⟨h.2, h.1⟩
            have hL4 := HH.out.below HB4.out
            obtain ⟨c0, -, c2, c3, -, c5⟩ := hL4.cells
            have hlr := hL4.lt
            clear HDx HD hL4
            have hor : ((cx != 0) = true) ∨ (cx = 0 ∧ (tx == x.t) = false) := by
              by_cases h2 : cx = 0
              · exact .inr ⟨h2, by rw [beq_eq_false_iff_ne]; exact fun e => hcx ⟨h2, e⟩⟩
              · exact .inl (by rw [bne_iff_ne]; exact h2)
            clear hcx
            obtain ⟨k', p, hp'⟩ := LG.place HQ.out HCh.out HDs.out
            have HP : Hid (L.Place i tt (xs.map EntV.e) x.e ((xs.drop (j + 1)).map EntV.e) k' p) := hp'
            have HPx : Hid (x.i = L.ix + p + 1 ∧ p ≤ s.n) := ⟨by have h1 := hp'.pe; have h3 : x.e.i = x.i := rfl; omega, by have h1 := hp'.le; rw [HH.out.len] at h1; exact h1⟩
            have HF : Hid (R = if x.i ≤ L.done then ((0, false), L) else ((i + (sx.n : Int), true), L.cut x.e (x.e :: (xs.drop (j + 1)).map EntV.e))) := by
              rw [Hid, ← HR.out]
              unfold LG.match_
              rw [if_pos ⟨HQ.out, HCh.out⟩, HDs.out, List.length_map, HS.out.2.2.2]
              rfl
            clear hp'
            go_upto_region 8 with fail
            go_cut [57] (fun t wc => t = .bool false ∧ w4 = wc)
            case first =>
              rcases hor with hn0 | ⟨rfl, hnt⟩
              · have hn1 : (cx == 0) = false := by rw [beq_eq_false_iff_ne]; exact bne_iff_ne.1 hn0
                go_wp2_with fail
                go_meet
                case rel => exact ⟨rfl, rfl⟩
              · go_wp2_with fail
                go_meet
                case rel => exact ⟨rfl, rfl⟩
            case rest =>
              obtain ⟨rfl, rfl⟩ := hcut
              clear hor
              by_cases hdn : x.i ≤ L.done
              · have HF2 : Hid (R = ((0, false), L)) := by rw [Hid, HF.out, if_pos hdn]
                have HT2 : Hid (∀ m, RTurns13 w0 w r G L (w4.drewN m)) := fun m => .of_below HH.out (HB4.out.trans ((below_drewN (Below.refl _ _) m).mono HB4.out.size))
                go_wp2
                go_quiet (fail)
                go_wp2
                go_ret2
                exact ⟨by rw [HF2.out]; rfl, by rw [HF2.out]; exact HT2.out _⟩
              · have HF2 : Hid (R = ((i + (sx.n : Int), true), L.cut x.e (x.e :: (xs.drop (j + 1)).map EntV.e))) := by rw [Hid, HF.out, if_neg hdn]
                go_wp2
                go_quiet (fail)
                rename_i nq
                have HBV : Hid (Below w.heap.size w (w4.drewN nq)) := HB4.out.trans ((below_drewN (Below.refl _ _) nq).mono HB4.out.size)
                have HbV : Hid ((w4.drewN nq).heap[eb]? = some (.cells x.arr 51 (0, 0))) := box_below HbE4.out (below_drewN (Below.refl _ _) nq)
                generalize w4.drewN nq = V at *
                clear c0 c2 c3 c5 y0 y1 hlr hl4 HB4 HbE4
                have hLV := HH.out.below HBV.out
                obtain ⟨c0, -, c2, -, -, -⟩ := hLV.cells
                have hlr := hLV.lt
                have y0 : V.cell? ⟨eb, 0, none⟩ = some (.int .i64 x.i) := box_cell HbV.out 0
                have hl4 := box_lt HbV.out
                have v1 : IntKind.i64.wrap (x.i - L.ix) = (p : Int) + 1 := by have h1 := HPx.out.1; have h2 := HPx.out.2; have h3 := HH.out.sz; rw [IntKind.wrap_i64]; omega
                have v2 : IntKind.i64.wrap (p : Int) = (p : Int) := by have h2 := HPx.out.2; have h3 := HH.out.sz; rw [IntKind.wrap_i64]; omega
                have v3 : IntKind.i64.wrap (x.i - 1) = x.i - 1 := by have h1 := HPx.out.1; have h2 := HPx.out.2; have h3 := HH.out.sz; have h4 := HH.out.nums.x1; rw [IntKind.wrap_i64]; omega
                have hpn := HPx.out.2
                have hjc : j < sx.c := by omega
                have hsc := HH.out.c
                have hpc : p ≤ s.c := by omega
                have HNe : Hid (eb ≠ r) := by
                  intro e
                  have h1 := hLV.obj
                  rw [← e, HbV.out] at h1
                  simp only [Option.some.injEq, Obj.cells.injEq] at h1
                  exact absurd h1.2.1 (by decide)
                have HSn : Hid (0 + p + (sx.n - j) ≤ 837723144948 ∧ p + (sx.n - j) ≤ 837723144948) := ⟨by have h1 := HS.out.1; omega, by have h1 := HS.out.1; omega⟩
                have KH : Hid (∀ W, Below V.heap.size V W → HasE W ⟨s.p, p, s.c⟩ (es.take p) ∧ HasE W ⟨some ⟨g, o + j * 13, none⟩, sx.n - j, sx.c - j⟩ (xs.drop j) ∧ W.heap[r]? = some (.cells (rfArr L s) 38 (0, 0)) ∧ W.heap[eb]? = some (.cells x.arr 51 (0, 0))) := fun W hW => by
                  have hBW := HBV.out.trans (hW.mono HBV.out.size)
                  exact ⟨(HH.out.below hBW).has.take13 hpn, HDrop.out W (HH.out.bel.trans (hBW.mono hz0)), (HH.out.below hBW).obj, box_below HbV.out hW⟩
                have HIn : Hid ((L.cut x.e (x.e :: (xs.drop (j + 1)).map EntV.e)).Inv ∧ (L.cut x.e (x.e :: (xs.drop (j + 1)).map EntV.e)).end ≤ 1125899906842624) := ⟨HP.out.inv HH.out.inv HCh.out (by have h3 : x.e.i = x.i := rfl; omega), by rw [LG.cut_end HP.out, List.length_map, HS.out.2.2.2]; have h1 := HS.out.2.1; omega⟩
                have HCut : Hid (L.cut x.e (x.e :: (xs.drop (j + 1)).map EntV.e) = { L with l := L.l.take p ++ (xs.drop j).map EntV.e, safe := if x.i ≤ L.safe then x.i - 1 else L.safe }) := by
                  rw [Hid, LG.cut_eq HP.out, drop_map13 hjl, HX.out]
                  rfl
                have HZs : Hid ((xs.drop j).length = sx.n - j ∧ ∀ e ∈ xs.drop j, FitsE w0 e) := ⟨by rw [List.length_drop, HS.out.2.2.2], fun e he => HE.out.all e (List.mem_of_mem_drop he)⟩
                generalize L.cut x.e (x.e :: (xs.drop (j + 1)).map EntV.e) = LC at *
                clear hLV
                go_upto_region 11 with fail
                go_cut [12] (fun t wc => t = .int .i64 (j : Nat) ∧ Hid (Put13 V wc r eb L x p (sx.n - j) ([] ++ entsV (es.take p) ++ entsV (xs.drop j))))
                case first =>
                  go_region_law (first
                    | (refine step_row13 (W0 := V) _ rfl (.tmp 66) (.tmp 79) rfl (by repeat (first | exact Below.refl _ _ | refine below_same13 ?_ _ | refine below_ad13 ?_)) (.slice (some ⟨_, 0, none⟩) 0 0) (.slice s.p p s.c) 0 p [] (entsV (es.take p)) rfl rfl (hasR_of_hasE (KH.out _ (by repeat (first | exact Below.refl _ _ | refine below_same13 ?_ _ | refine below_ad13 ?_))).1) (entsV_cell _) (empty_own13 (heap_alloc_new _ _) (Nat.le_refl _)) (by have h := HSn.out; unfold Hid at h; omega) ?_; intro v4 w4 ho4 hb4 hg4; have HBf : Hid (Below V.heap.size V w4) := hb4; have HO4 : Hid _ := ho4; clear hg4 hb4 ho4)
                    | (refine step_row13 (W0 := V) _ rfl (.tmp 80) (.tmp 83) rfl HBf.out _ (.slice (some ⟨g, o + j * 13, none⟩) (sx.n - j) (sx.c - j)) (0 + p) (sx.n - j) ([] ++ entsV (es.take p)) (entsV (xs.drop j)) rfl (by simp [Act.eval]; intro h; omega) (hasR_of_hasE (KH.out _ HBf.out).2.1) (entsV_cell _) HO4.out (by have h := HSn.out; unfold Hid at h; omega) ?_; intro v5 w5 ho5 hb5 hg5; have HB5 : Hid (Below V.heap.size V w5) := hb5; have HO5 : Hid _ := ho5; obtain ⟨p5, n5, c5, rfl⟩ := row_shape11 ho5; have hob := (KH.out w5 hb5).2.2.1; have d2 : w5.cell? ⟨r, 2, none⟩ = some (.slice s.p s.n s.c) := box_cell hob 2; have f2 := frozen9 hob 2; have hl5 := box_lt hob; have hZ := set_block9 hob 2 (.slice p5 n5 c5) (by show 2 < 6; decide); have hZt : Turn (fun k => k = r) w5 (w5.setCell ⟨r, 2, none⟩ (.slice p5 n5 c5)) := (Turn.refl (fun k => k = r) w5).setCell (p := ⟨r, 2, none⟩) (.inl rfl) _; have hZb := (Below.heap_setCell w5 ⟨r, 2, none⟩ (.slice p5 n5 c5) eb HNe.out).trans (KH.out w5 hb5).2.2.2; have HZ : Hid _ := hZ; have HZt : Hid _ := hZt; have HZb : Hid _ := hZb; clear hb5 ho5 hg5 hob hZ hZt hZb))
                  all_goals
                    have HPut : Hid (Put13 V (w5.setCell ⟨r, 2, none⟩ (.slice p5 n5 c5)) r eb L x p (sx.n - j) ([] ++ entsV (es.take p) ++ entsV (xs.drop j))) := ⟨w5, p5, n5, c5, HB5.out, HO5.out, HZt.out, HZ.out, HZb.out⟩
                    go_wp2_with fail
                    go_meet
                    case rel => exact ⟨rfl, HPut⟩
                case rest =>
                  obtain ⟨rfl, HPt⟩ := hcut
                  obtain ⟨w5, p5, n5, c5, hb5, ho5, hzt, hz, hzb⟩ := HPt.out
                  have HB5 : Hid _ := hb5
                  have HO5 : Hid _ := ho5
                  have HZt : Hid _ := hzt
                  have HZ : Hid _ := hz
                  have HZb : Hid _ := hzb
                  have d5 : wc.cell? ⟨r, 5, none⟩ = some (.int .i64 L.safe) := box_cell HZ.out 5
                  have d0 : wc.cell? ⟨eb, 0, none⟩ = some (.int .i64 x.i) := box_cell HZb.out 0
                  have hlz := box_lt HZ.out
                  have hlz2 := box_lt HZb.out
                  clear hb5 ho5 hzt hz hzb HPt c0 c2 hlr y0 hl4
                  by_cases hsf : x.i ≤ L.safe
                  · have HLC : Hid (LC = { L with l := L.l.take p ++ (xs.drop j).map EntV.e, safe := x.i - 1 }) := by rw [Hid, HCut.out, if_pos hsf]
                    have HTf : Hid (∀ m, RTurns13 w0 w r G LC ((wc.drewN m).setCell ⟨r, 5, none⟩ (.int .i64 (x.i - 1)))) := fun m => by
                      have hbm : Below wc.heap.size wc (wc.drewN m) := below_drewN (Below.refl _ _) m
                      refine rcut13 HH.out HBV.out HB5.out hpn HO5.out HZs.out.1 HZs.out.2 HIn.out.1 HIn.out.2 (by rw [HLC.out]) ((HZt.out.trans (Turn.of_below hbm (Nat.le_refl _))).setCell (p := ⟨r, 5, none⟩) (.inl rfl) _) ?_ HSn.out.2
                      rw [HLC.out]
                      exact set_block9 (box_below HZ.out hbm) 5 (.int .i64 (x.i - 1)) (by show 5 < 6; decide)
                    have HFz : Hid (∀ m, (wc.drewN m).frozen? ⟨r, 5, none⟩ = false ∧ (wc.drewN m).cell? ⟨r, 5, none⟩ = some (.int .i64 L.safe) ∧ (wc.drewN m).cell? ⟨eb, 0, none⟩ = some (.int .i64 x.i) ∧ r < (wc.drewN m).heap.size) := fun m => by
                      have hbm : Below wc.heap.size wc (wc.drewN m) := below_drewN (Below.refl _ _) m
                      have hob := box_below HZ.out hbm
                      exact ⟨frozen9 hob 5, box_cell hob 5, box_cell (box_below HZb.out hbm) 0, box_lt hob⟩
                    go_wp2
                    go_quiet (fail)
                    generalize hYq : World.drewN wc _ = Y
                    obtain ⟨nq2, hq2⟩ : ∃ m, wc.drewN m = Y := ⟨_, hYq⟩
                    have HTz := HTf.out nq2
                    have hF6 := HFz.out nq2
                    rw [hq2] at HTz hF6
                    obtain ⟨f5, g5, g0, hl6⟩ := hF6
                    have HTy : Hid _ := HTz
                    clear HTz d5 d0 hlz hlz2 HFz HTf hYq hq2
                    go_wp2
                    go_ret2
                    exact ⟨by rw [HF2.out]; rfl, by rw [HF2.out]; exact HTy.out⟩
                  · have HLC : Hid (LC = { L with l := L.l.take p ++ (xs.drop j).map EntV.e }) := by rw [Hid, HCut.out, if_neg hsf]
                    have HTf : Hid (∀ m, RTurns13 w0 w r G LC (wc.drewN m)) := fun m => by
                      have hbm : Below wc.heap.size wc (wc.drewN m) := below_drewN (Below.refl _ _) m
                      refine rcut13 HH.out HBV.out HB5.out hpn HO5.out HZs.out.1 HZs.out.2 HIn.out.1 HIn.out.2 (by rw [HLC.out]) (HZt.out.trans (Turn.of_below hbm (Nat.le_refl _))) ?_ HSn.out.2
                      rw [HLC.out]
                      exact box_below HZ.out hbm
                    go_wp2
                    go_quiet (fail)
                    go_wp2
                    go_ret2
                    exact ⟨by rw [HF2.out]; rfl, by rw [HF2.out]; exact HTf.out _⟩
        · obtain rfl : j = sx.n := by omega
          have HF : Hid (R = ((i + (sx.n : Int), true), L)) := by
            rw [Hid, ← HR.out]
            unfold LG.match_
            rw [if_pos ⟨HQ.out, HCh.out⟩, HD.out.2, List.drop_of_length_le (Nat.le_of_eq HS.out.2.2.2), List.length_map, HS.out.2.2.2]
            rfl
          have HT : Hid (RTurns13 w0 w r G L wr) := .of_below HH.out HD.out.1
          clear HD
          go_wp2
          go_ret2
          exact ⟨by rw [HF.out]; rfl, by rw [HF.out]; exact HT.out⟩
  · have HF : Hid (R = ((0, false), L)) := by
      rw [Hid, ← HR.out]
      unfold LG.match_
      rw [HQ.out, if_neg]
      rintro ⟨h1, -⟩
      simp only [Prod.mk.injEq] at h1
      exact hc ⟨h1.2, h1.1⟩
    rw [HF.out]
    go_enter Try.func28, Try.ntmps28
    go_wp2_with fail
    refine kt.mono ?_
    rintro _ w2 ⟨rfl, hb2⟩
    have HT : Hid (RTurns13 w0 w r G L w2) := .of_below HH.out hb2
    clear kt hb2
    by_cases h2 : c = 0
    · have h3 : tt ≠ t := fun e => hc ⟨h2, e⟩
      subst h2
      have h3' : (tt != t) = true := by rw [bne_iff_ne]; exact h3
      clear hc h3
      go_wp2
      go_ret2
      exact ⟨rfl, HT.out⟩
    · have h2' : (c != 0) = true := by rw [bne_iff_ne]; exact h2
      clear hc h2
      go_wp2
      go_ret2
      exact ⟨rfl, HT.out⟩
end
end Go.Proofs.Ytephoegcpjdglaa
