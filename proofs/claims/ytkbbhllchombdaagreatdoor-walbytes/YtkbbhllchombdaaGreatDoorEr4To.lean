import Derived.Test.YtkbbhllchombdaaGreatDoorEp1To
import Derived.Test.YtkbbhllchombdaaGreatDoorLd
import Derived.Test.YtkbbhllchombdaaGreatDoorLxTo
import Derived.Test.YtkbbhllchombdaaGreatDoorEn6To
import Derived.Test.YtkbbhllchombdaaGreatDoorHRowETo
namespace Go.Proofs.YtkbbhllchombdaaGreatDoor
open Go.RowKit Go.Shelf
attribute [local go_sem ↓] ldE_exec ldE_run stE_exec stE_run ldC_exec ldC_run stC_exec stC_run ldW_exec stW_exec ldR_exec stR_exec ldT_exec stT_exec ldU_exec stU_exec oc_int oc_bool oc_string oc_slice oc_pointer
set_option maxRecDepth 100000 in
set_option maxHeartbeats 4000000 in
theorem wholeE_any (w0 w:World) (rb:Nat) (S:St) (h:Rdr w0 w rb S) :
    Calls Tryz.prog 215 #[.pointer (some ⟨rb,0,none⟩),.func (.func 216) #[.pointer (some ⟨rb,0,none⟩)] #[],.func (.func 106) #[] #[]] w fun e w'=>∃ X:EntV,e = .returned (.tuple #[.agg X.arr,.int .i64 (whole10 goodE10 noE10 (pent10 S)).2])∧X.e = (whole10 goodE10 noE10 (pent10 S)).1∧OwnsE w' w.heap.size X∧Below w0.heap.size w0 w'∧w.grownBy w' (some rb):=by
  have hb1:Below w.heap.size w (w.alloc (.cells #[.int .i64 0,.int .i64 0,.int .i64 0,.int .i64 0,.int .i64 0,.int .i64 0,.string em9,.string em9,.string em9,.string em9,.int .i64 0,.slice none 0 0,.slice none 0 0] 28)):=(Below.refl _ _).alloc (Nat.le_refl _) _
  have hbox:EntAt (w.alloc (.cells #[.int .i64 0,.int .i64 0,.int .i64 0,.int .i64 0,.int .i64 0,.int .i64 0,.string em9,.string em9,.string em9,.string em9,.int .i64 0,.slice none 0 0,.slice none 0 0] 28)) w.heap.size noEV:=heap_alloc_new w _
  have hz1:(w.alloc (.cells #[.int .i64 0,.int .i64 0,.int .i64 0,.int .i64 0,.int .i64 0,.int .i64 0,.string em9,.string em9,.string em9,.string em9,.int .i64 0,.slice none 0 0,.slice none 0 0] 28)).heap.size = w.heap.size + 1:=by simp
  have hrl:=h.lt
  have k1:=partE_any w0 _ rb S (h.more hb1)
  have HW0:Hid (whole10 goodE10 noE10 (pent10 S) = if ((pent10 S).2.1.isEmpty && !(pent10 S).2.2) && goodE10 (pent10 S).1 then ((pent10 S).1,0) else (noE10,8)):=rfl
  generalize whole10 goodE10 noE10 (pent10 S) = R at *
  generalize pent10 S = A at *
  obtain ⟨x0,S1⟩:=A
  dsimp only at k1 HW0
  clear h
  go_enter Tryz.func215,Tryz.ntmps215
  go_wp2_with fail
  generalize w.alloc (.cells #[.int .i64 0,.int .i64 0,.int .i64 0,.int .i64 0,.int .i64 0,.int .i64 0,.string em9,.string em9,.string em9,.string em9,.int .i64 0,.slice none 0 0,.slice none 0 0] 28) = W1 at *
  refine k1.mono ?_
  rintro _ w2 ⟨X,rfl,hX,hM,hR2,hg2⟩
  have hbox2:EntAt w2 w.heap.size noEV:=grown_box hg2 hbox (by omega)
  have hG2:=grown_after hb1 hg2
  have hsz2:=hg2.size
  have hb3:Below w2.heap.size w2 (w2.alloc (.cells X.arr 28)):=(Below.refl _ _).alloc (Nat.le_refl _) _
  have hbn3:EntAt (w2.alloc (.cells X.arr 28)) w2.heap.size X:=heap_alloc_new w2 _
  have hbox3:=box_below hbox2 hb3
  have hR3:=hR2.more hb3
  have hG3:=grown_trans hG2 (below_grownBy hb3)
  have hM3:=hM.below hb3
  have kg:Calls Tryz.prog 106 #[.agg X.arr] (w2.alloc (.cells X.arr 28)) fun e w'=>e = .returned (.bool (goodE10 X.e))∧Below (w2.alloc (.cells X.arr 28)).heap.size (w2.alloc (.cells X.arr 28)) w':=(fun W h=>goodE_any X W h) _ hM3.fits
  have kf:=hR3.fin
  have HX:Hid (X.e = x0):=hX
  rw [hX] at kg
  clear k1 hbox hR2 hg2 hbox2 hG2 hb3 hM hX
  generalize hgx:goodE10 x0 = gx at *
  have HGX:Hid (goodE10 x0 = gx):=hgx
  clear hgx
  obtain ⟨i,t,k,⟨ck,cs,cq,ckey,cold,cval,cunt,clim⟩,⟨⟨p,n,c⟩,⟨q,m,d⟩,f⟩⟩:=X
  unfold EntV.arr at *
  dsimp only at *
  go_wp2_with fail
  generalize w2.alloc (.cells #[.int .i64 i,.int .i64 t,.int .i64 k,.int .i64 ck,.int .i64 cs,.int .i64 cq,.string ckey,.string cold,.string cval,.string cunt,.int .i64 clim,.slice p n c,.slice q m d] 28) = W3 at *
  generalize w2.heap.size = bx at *
  generalize hfi:(S1.1.isEmpty && !S1.2) = fi at *
  cases fi with
  | false =>
    have HW:Hid (R = (noE10,8)):=by rw [Hid,HW0.out];rfl
    clear HW0
    refine same_mono kf ?_
    have hbn:Below W3.heap.size W3 (W3.alloc (.cells #[.int .i64 0,.int .i64 0,.int .i64 0,.int .i64 0,.int .i64 0,.int .i64 0,.string em9,.string em9,.string em9,.string em9,.int .i64 0,.slice none 0 0,.slice none 0 0] 28)):=(Below.refl _ _).alloc (Nat.le_refl _) _
    have hbx:EntAt (W3.alloc (.cells #[.int .i64 0,.int .i64 0,.int .i64 0,.int .i64 0,.int .i64 0,.int .i64 0,.string em9,.string em9,.string em9,.string em9,.int .i64 0,.slice none 0 0,.slice none 0 0] 28)) w.heap.size noEV:=box_below hbox3 hbn
    have hnn:EntAt (W3.alloc (.cells #[.int .i64 0,.int .i64 0,.int .i64 0,.int .i64 0,.int .i64 0,.int .i64 0,.string em9,.string em9,.string em9,.string em9,.int .i64 0,.slice none 0 0,.slice none 0 0] 28)) W3.heap.size noEV:=heap_alloc_new W3 _
    have hRn:=hR3.more hbn
    have hGn:=grown_trans hG3 (below_grownBy hbn)
    have d0:=box_cell hbx 0
    have d1:=box_cell hbx 1
    have d2:=box_cell hbx 2
    have d3:=box_cell hbx 3
    have d4:=box_cell hbx 4
    have d5:=box_cell hbx 5
    have d6:=box_cell hbx 6
    have d7:=box_cell hbx 7
    have d8:=box_cell hbx 8
    have d9:=box_cell hbx 9
    have d10:=box_cell hbx 10
    have d11:=box_cell hbx 11
    have d12:=box_cell hbx 12
    have fb:=frozen9 hbx
    have hlr:=box_lt hbx
    have e0:=box_cell hnn 0
    have e1:=box_cell hnn 1
    have e2:=box_cell hnn 2
    have e3:=box_cell hnn 3
    have e4:=box_cell hnn 4
    have e5:=box_cell hnn 5
    have e6:=box_cell hnn 6
    have e7:=box_cell hnn 7
    have e8:=box_cell hnn 8
    have e9:=box_cell hnn 9
    have e10:=box_cell hnn 10
    have e11:=box_cell hnn 11
    have e12:=box_cell hnn 12
    have hln:=box_lt hnn
    have hMn:=OwnsE.nil (W3.alloc (.cells #[.int .i64 0,.int .i64 0,.int .i64 0,.int .i64 0,.int .i64 0,.int .i64 0,.string em9,.string em9,.string em9,.string em9,.int .i64 0,.slice none 0 0,.slice none 0 0] 28)) (w.heap.size + 1)
    dsimp only [EntV.arr,noEV,zeroC9,noFV,nilS10] at d0 d1 d2 d3 d4 d5 d6 d7 d8 d9 d10 d11 d12 e0 e1 e2 e3 e4 e5 e6 e7 e8 e9 e10 e11 e12
    go_upto_region 4 with fail
    generalize W3.alloc (.cells #[.int .i64 0,.int .i64 0,.int .i64 0,.int .i64 0,.int .i64 0,.int .i64 0,.string em9,.string em9,.string em9,.string em9,.int .i64 0,.slice none 0 0,.slice none 0 0] 28) = W9 at *
    generalize W3.heap.size = nb at *
    go_wp2
    have hF:=fillE (b:=w.heap.size) (x0:=noEV) hbx 0 0 0 0 0 0 em9 em9 em9 em9 0 none 0 0 none 0 0 noF10
    have hR9:=((((((((((((((((((((((((((hRn).cell (b:=w.heap.size) (by omega) (by omega) 0 (.int .i64 0))).cell (b:=w.heap.size) (by omega) (by omega) 1 (.int .i64 0))).cell (b:=w.heap.size) (by omega) (by omega) 2 (.int .i64 0))).cell (b:=w.heap.size) (by omega) (by omega) 3 (.int .i64 0))).cell (b:=w.heap.size) (by omega) (by omega) 4 (.int .i64 0))).cell (b:=w.heap.size) (by omega) (by omega) 5 (.int .i64 0))).cell (b:=w.heap.size) (by omega) (by omega) 6 (.string em9))).cell (b:=w.heap.size) (by omega) (by omega) 7 (.string em9))).cell (b:=w.heap.size) (by omega) (by omega) 8 (.string em9))).cell (b:=w.heap.size) (by omega) (by omega) 9 (.string em9))).cell (b:=w.heap.size) (by omega) (by omega) 10 (.int .i64 0))).cell (b:=w.heap.size) (by omega) (by omega) 11 (.slice none 0 0))).cell (b:=w.heap.size) (by omega) (by omega) 12 (.slice none 0 0))
    have hG9:=(grown_new (b:=w.heap.size) (grown_new (b:=w.heap.size) (grown_new (b:=w.heap.size) (grown_new (b:=w.heap.size) (grown_new (b:=w.heap.size) (grown_new (b:=w.heap.size) (grown_new (b:=w.heap.size) (grown_new (b:=w.heap.size) (grown_new (b:=w.heap.size) (grown_new (b:=w.heap.size) (grown_new (b:=w.heap.size) (grown_new (b:=w.heap.size) (grown_new (b:=w.heap.size) hGn (by omega) 0 (.int .i64 0)) (by omega) 1 (.int .i64 0)) (by omega) 2 (.int .i64 0)) (by omega) 3 (.int .i64 0)) (by omega) 4 (.int .i64 0)) (by omega) 5 (.int .i64 0)) (by omega) 6 (.string em9)) (by omega) 7 (.string em9)) (by omega) 8 (.string em9)) (by omega) 9 (.string em9)) (by omega) 10 (.int .i64 0)) (by omega) 11 (.slice none 0 0)) (by omega) 12 (.slice none 0 0))
    have hO9:=((((((((((((((((((((((((((hMn).cell (b:=w.heap.size) (by omega) 0 (.int .i64 0))).cell (b:=w.heap.size) (by omega) 1 (.int .i64 0))).cell (b:=w.heap.size) (by omega) 2 (.int .i64 0))).cell (b:=w.heap.size) (by omega) 3 (.int .i64 0))).cell (b:=w.heap.size) (by omega) 4 (.int .i64 0))).cell (b:=w.heap.size) (by omega) 5 (.int .i64 0))).cell (b:=w.heap.size) (by omega) 6 (.string em9))).cell (b:=w.heap.size) (by omega) 7 (.string em9))).cell (b:=w.heap.size) (by omega) 8 (.string em9))).cell (b:=w.heap.size) (by omega) 9 (.string em9))).cell (b:=w.heap.size) (by omega) 10 (.int .i64 0))).cell (b:=w.heap.size) (by omega) 11 (.slice none 0 0))).cell (b:=w.heap.size) (by omega) 12 (.slice none 0 0))
    refine bodyPost_ret (ret_cell9 rfl _ _ w.heap.size _ _ _ _ rfl hF Tryz.underlying28 rfl (by kernel_rfl)) rfl ⟨noEV,?_,?_,hO9.mono (by omega),hR9.bel,hG9⟩
    · rw [HW.out];rfl
    · rw [HW.out];rfl
  | true =>
    refine same_mono kf ?_
    clear kf
    replace hbn3:EntAt W3 bx ⟨i,t,k,⟨ck,cs,cq,ckey,cold,cval,cunt,clim⟩,⟨⟨p,n,c⟩,⟨q,m,d⟩,f⟩⟩:=hbn3
    have c0:=box_cell hbn3 0
    have c1:=box_cell hbn3 1
    have c2:=box_cell hbn3 2
    have c3:=box_cell hbn3 3
    have c4:=box_cell hbn3 4
    have c5:=box_cell hbn3 5
    have c6:=box_cell hbn3 6
    have c7:=box_cell hbn3 7
    have c8:=box_cell hbn3 8
    have c9:=box_cell hbn3 9
    have c10:=box_cell hbn3 10
    have c11:=box_cell hbn3 11
    have c12:=box_cell hbn3 12
    have hlx:=box_lt hbn3
    dsimp only [EntV.arr] at c0 c1 c2 c3 c4 c5 c6 c7 c8 c9 c10 c11 c12
    go_wp2_with fail
    refine kg.mono ?_
    rintro _ w4 ⟨rfl,hb4⟩
    have hbx4:EntAt w4 bx ⟨i,t,k,⟨ck,cs,cq,ckey,cold,cval,cunt,clim⟩,⟨⟨p,n,c⟩,⟨q,m,d⟩,f⟩⟩:=box_below hbn3 hb4
    have hbox4:EntAt w4 w.heap.size noEV:=box_below hbox3 hb4
    have hR4:=hR3.more hb4
    have hG4:=grown_trans hG3 (below_grownBy hb4)
    have hM4:=hM3.below hb4
    clear kg hbn3 hbox3 hR3 hG3 hM3 hb4 c0 c1 c2 c3 c4 c5 c6 c7 c8 c9 c10 c11 c12 hlx
    cases gx with
    | false =>
      have HW:Hid (R = (noE10,8)):=by rw [Hid,HW0.out];rfl
      clear HW0
      have hbn:Below w4.heap.size w4 (w4.alloc (.cells #[.int .i64 0,.int .i64 0,.int .i64 0,.int .i64 0,.int .i64 0,.int .i64 0,.string em9,.string em9,.string em9,.string em9,.int .i64 0,.slice none 0 0,.slice none 0 0] 28)):=(Below.refl _ _).alloc (Nat.le_refl _) _
      have hbx:EntAt (w4.alloc (.cells #[.int .i64 0,.int .i64 0,.int .i64 0,.int .i64 0,.int .i64 0,.int .i64 0,.string em9,.string em9,.string em9,.string em9,.int .i64 0,.slice none 0 0,.slice none 0 0] 28)) w.heap.size noEV:=box_below hbox4 hbn
      have hnn:EntAt (w4.alloc (.cells #[.int .i64 0,.int .i64 0,.int .i64 0,.int .i64 0,.int .i64 0,.int .i64 0,.string em9,.string em9,.string em9,.string em9,.int .i64 0,.slice none 0 0,.slice none 0 0] 28)) w4.heap.size noEV:=heap_alloc_new w4 _
      have hRn:=hR4.more hbn
      have hGn:=grown_trans hG4 (below_grownBy hbn)
      have d0:=box_cell hbx 0
      have d1:=box_cell hbx 1
      have d2:=box_cell hbx 2
      have d3:=box_cell hbx 3
      have d4:=box_cell hbx 4
      have d5:=box_cell hbx 5
      have d6:=box_cell hbx 6
      have d7:=box_cell hbx 7
      have d8:=box_cell hbx 8
      have d9:=box_cell hbx 9
      have d10:=box_cell hbx 10
      have d11:=box_cell hbx 11
      have d12:=box_cell hbx 12
      have fb:=frozen9 hbx
      have hlr:=box_lt hbx
      have e0:=box_cell hnn 0
      have e1:=box_cell hnn 1
      have e2:=box_cell hnn 2
      have e3:=box_cell hnn 3
      have e4:=box_cell hnn 4
      have e5:=box_cell hnn 5
      have e6:=box_cell hnn 6
      have e7:=box_cell hnn 7
      have e8:=box_cell hnn 8
      have e9:=box_cell hnn 9
      have e10:=box_cell hnn 10
      have e11:=box_cell hnn 11
      have e12:=box_cell hnn 12
      have hln:=box_lt hnn
      have hMn:=OwnsE.nil (w4.alloc (.cells #[.int .i64 0,.int .i64 0,.int .i64 0,.int .i64 0,.int .i64 0,.int .i64 0,.string em9,.string em9,.string em9,.string em9,.int .i64 0,.slice none 0 0,.slice none 0 0] 28)) (w.heap.size + 1)
      dsimp only [EntV.arr,noEV,zeroC9,noFV,nilS10] at d0 d1 d2 d3 d4 d5 d6 d7 d8 d9 d10 d11 d12 e0 e1 e2 e3 e4 e5 e6 e7 e8 e9 e10 e11 e12
      go_upto_region 4 with fail
      generalize w4.alloc (.cells #[.int .i64 0,.int .i64 0,.int .i64 0,.int .i64 0,.int .i64 0,.int .i64 0,.string em9,.string em9,.string em9,.string em9,.int .i64 0,.slice none 0 0,.slice none 0 0] 28) = W9 at *
      generalize w4.heap.size = nb at *
      go_wp2
      have hF:=fillE (b:=w.heap.size) (x0:=noEV) hbx 0 0 0 0 0 0 em9 em9 em9 em9 0 none 0 0 none 0 0 noF10
      have hR9:=((((((((((((((((((((((((((hRn).cell (b:=w.heap.size) (by omega) (by omega) 0 (.int .i64 0))).cell (b:=w.heap.size) (by omega) (by omega) 1 (.int .i64 0))).cell (b:=w.heap.size) (by omega) (by omega) 2 (.int .i64 0))).cell (b:=w.heap.size) (by omega) (by omega) 3 (.int .i64 0))).cell (b:=w.heap.size) (by omega) (by omega) 4 (.int .i64 0))).cell (b:=w.heap.size) (by omega) (by omega) 5 (.int .i64 0))).cell (b:=w.heap.size) (by omega) (by omega) 6 (.string em9))).cell (b:=w.heap.size) (by omega) (by omega) 7 (.string em9))).cell (b:=w.heap.size) (by omega) (by omega) 8 (.string em9))).cell (b:=w.heap.size) (by omega) (by omega) 9 (.string em9))).cell (b:=w.heap.size) (by omega) (by omega) 10 (.int .i64 0))).cell (b:=w.heap.size) (by omega) (by omega) 11 (.slice none 0 0))).cell (b:=w.heap.size) (by omega) (by omega) 12 (.slice none 0 0))
      have hG9:=(grown_new (b:=w.heap.size) (grown_new (b:=w.heap.size) (grown_new (b:=w.heap.size) (grown_new (b:=w.heap.size) (grown_new (b:=w.heap.size) (grown_new (b:=w.heap.size) (grown_new (b:=w.heap.size) (grown_new (b:=w.heap.size) (grown_new (b:=w.heap.size) (grown_new (b:=w.heap.size) (grown_new (b:=w.heap.size) (grown_new (b:=w.heap.size) (grown_new (b:=w.heap.size) hGn (by omega) 0 (.int .i64 0)) (by omega) 1 (.int .i64 0)) (by omega) 2 (.int .i64 0)) (by omega) 3 (.int .i64 0)) (by omega) 4 (.int .i64 0)) (by omega) 5 (.int .i64 0)) (by omega) 6 (.string em9)) (by omega) 7 (.string em9)) (by omega) 8 (.string em9)) (by omega) 9 (.string em9)) (by omega) 10 (.int .i64 0)) (by omega) 11 (.slice none 0 0)) (by omega) 12 (.slice none 0 0))
      have hO9:=((((((((((((((((((((((((((hMn).cell (b:=w.heap.size) (by omega) 0 (.int .i64 0))).cell (b:=w.heap.size) (by omega) 1 (.int .i64 0))).cell (b:=w.heap.size) (by omega) 2 (.int .i64 0))).cell (b:=w.heap.size) (by omega) 3 (.int .i64 0))).cell (b:=w.heap.size) (by omega) 4 (.int .i64 0))).cell (b:=w.heap.size) (by omega) 5 (.int .i64 0))).cell (b:=w.heap.size) (by omega) 6 (.string em9))).cell (b:=w.heap.size) (by omega) 7 (.string em9))).cell (b:=w.heap.size) (by omega) 8 (.string em9))).cell (b:=w.heap.size) (by omega) 9 (.string em9))).cell (b:=w.heap.size) (by omega) 10 (.int .i64 0))).cell (b:=w.heap.size) (by omega) 11 (.slice none 0 0))).cell (b:=w.heap.size) (by omega) 12 (.slice none 0 0))
      refine bodyPost_ret (ret_cell9 rfl _ _ w.heap.size _ _ _ _ rfl hF Tryz.underlying28 rfl (by kernel_rfl)) rfl ⟨noEV,?_,?_,hO9.mono (by omega),hR9.bel,hG9⟩
      · rw [HW.out];rfl
      · rw [HW.out];rfl
    | true =>
      have HW:Hid (R = (x0,0)):=by rw [Hid,HW0.out];rfl
      clear HW0
      have c0:=box_cell hbx4 0
      have c1:=box_cell hbx4 1
      have c2:=box_cell hbx4 2
      have c3:=box_cell hbx4 3
      have c4:=box_cell hbx4 4
      have c5:=box_cell hbx4 5
      have c6:=box_cell hbx4 6
      have c7:=box_cell hbx4 7
      have c8:=box_cell hbx4 8
      have c9:=box_cell hbx4 9
      have c10:=box_cell hbx4 10
      have c11:=box_cell hbx4 11
      have c12:=box_cell hbx4 12
      have d0:=box_cell hbox4 0
      have d1:=box_cell hbox4 1
      have d2:=box_cell hbox4 2
      have d3:=box_cell hbox4 3
      have d4:=box_cell hbox4 4
      have d5:=box_cell hbox4 5
      have d6:=box_cell hbox4 6
      have d7:=box_cell hbox4 7
      have d8:=box_cell hbox4 8
      have d9:=box_cell hbox4 9
      have d10:=box_cell hbox4 10
      have d11:=box_cell hbox4 11
      have d12:=box_cell hbox4 12
      dsimp only [EntV.arr,noEV,zeroC9,noFV,nilS10] at c0 c1 c2 c3 c4 c5 c6 c7 c8 c9 c10 c11 c12 d0 d1 d2 d3 d4 d5 d6 d7 d8 d9 d10 d11 d12
      have hlx:=box_lt hbx4
      have hlr:=box_lt hbox4
      have fb:=frozen9 hbox4
      go_wp2
      have hF:=fillE (b:=w.heap.size) (x0:=noEV) hbox4 i t k ck cs cq ckey cold cval cunt clim p n c q m d f
      have hR9:=((((((((((((((((((((((((((hR4).cell (b:=w.heap.size) (by omega) (by omega) 0 (.int .i64 i))).cell (b:=w.heap.size) (by omega) (by omega) 1 (.int .i64 t))).cell (b:=w.heap.size) (by omega) (by omega) 2 (.int .i64 k))).cell (b:=w.heap.size) (by omega) (by omega) 3 (.int .i64 ck))).cell (b:=w.heap.size) (by omega) (by omega) 4 (.int .i64 cs))).cell (b:=w.heap.size) (by omega) (by omega) 5 (.int .i64 cq))).cell (b:=w.heap.size) (by omega) (by omega) 6 (.string ckey))).cell (b:=w.heap.size) (by omega) (by omega) 7 (.string cold))).cell (b:=w.heap.size) (by omega) (by omega) 8 (.string cval))).cell (b:=w.heap.size) (by omega) (by omega) 9 (.string cunt))).cell (b:=w.heap.size) (by omega) (by omega) 10 (.int .i64 clim))).cell (b:=w.heap.size) (by omega) (by omega) 11 (.slice p n c))).cell (b:=w.heap.size) (by omega) (by omega) 12 (.slice q m d))
      have hG9:=(grown_new (b:=w.heap.size) (grown_new (b:=w.heap.size) (grown_new (b:=w.heap.size) (grown_new (b:=w.heap.size) (grown_new (b:=w.heap.size) (grown_new (b:=w.heap.size) (grown_new (b:=w.heap.size) (grown_new (b:=w.heap.size) (grown_new (b:=w.heap.size) (grown_new (b:=w.heap.size) (grown_new (b:=w.heap.size) (grown_new (b:=w.heap.size) (grown_new (b:=w.heap.size) hG4 (by omega) 0 (.int .i64 i)) (by omega) 1 (.int .i64 t)) (by omega) 2 (.int .i64 k)) (by omega) 3 (.int .i64 ck)) (by omega) 4 (.int .i64 cs)) (by omega) 5 (.int .i64 cq)) (by omega) 6 (.string ckey)) (by omega) 7 (.string cold)) (by omega) 8 (.string cval)) (by omega) 9 (.string cunt)) (by omega) 10 (.int .i64 clim)) (by omega) 11 (.slice p n c)) (by omega) 12 (.slice q m d))
      have hO9:=((((((((((((((((((((((((((hM4).cell (b:=w.heap.size) (by omega) 0 (.int .i64 i))).cell (b:=w.heap.size) (by omega) 1 (.int .i64 t))).cell (b:=w.heap.size) (by omega) 2 (.int .i64 k))).cell (b:=w.heap.size) (by omega) 3 (.int .i64 ck))).cell (b:=w.heap.size) (by omega) 4 (.int .i64 cs))).cell (b:=w.heap.size) (by omega) 5 (.int .i64 cq))).cell (b:=w.heap.size) (by omega) 6 (.string ckey))).cell (b:=w.heap.size) (by omega) 7 (.string cold))).cell (b:=w.heap.size) (by omega) 8 (.string cval))).cell (b:=w.heap.size) (by omega) 9 (.string cunt))).cell (b:=w.heap.size) (by omega) 10 (.int .i64 clim))).cell (b:=w.heap.size) (by omega) 11 (.slice p n c))).cell (b:=w.heap.size) (by omega) 12 (.slice q m d))
      refine bodyPost_ret (ret_cell9 rfl _ _ w.heap.size _ _ _ _ rfl hF Tryz.underlying28 rfl (by kernel_rfl)) rfl ⟨⟨i,t,k,⟨ck,cs,cq,ckey,cold,cval,cunt,clim⟩,⟨⟨p,n,c⟩,⟨q,m,d⟩,f⟩⟩,?_,?_,hO9.mono (by omega),hR9.bel,hG9⟩
      · rw [HW.out];rfl
      · rw [HW.out];exact HX.out
set_option maxRecDepth 100000 in
set_option maxHeartbeats 4000000 in
theorem readE_own (v:Value) (xs:List Int) (w:World) (hv:Has w v xs) (hB:IsB xs) (hl:xs.length≤1073741824) :
    Calls Tryz.prog 167 #[v] w fun e w'=>∃ X:EntV,e = .returned (.tuple #[.agg X.arr,.int .i64 (whole10 goodE10 noE10 (pent10 (xs,false))).2])∧X.e = (whole10 goodE10 noE10 (pent10 (xs,false))).1∧OwnsE w' w.heap.size X∧Below w.heap.size w w':=by
  have hmf:∀ (fn:Fn) (first cap:Array Value) (w:World),(Instr.makeFunc fn first cap).run Tryz.prog w = .ok (.func fn first cap) w:=fun _ _ _ _=>rfl
  have hb1:Below w.heap.size w (w.alloc (.cells #[.int .i64 0,.int .i64 0,.int .i64 0,.int .i64 0,.int .i64 0,.int .i64 0,.string em9,.string em9,.string em9,.string em9,.int .i64 0,.slice none 0 0,.slice none 0 0] 28)):=(Below.refl _ _).alloc (Nat.le_refl _) _
  have hbox:EntAt (w.alloc (.cells #[.int .i64 0,.int .i64 0,.int .i64 0,.int .i64 0,.int .i64 0,.int .i64 0,.string em9,.string em9,.string em9,.string em9,.int .i64 0,.slice none 0 0,.slice none 0 0] 28)) w.heap.size noEV:=heap_alloc_new w _
  have hz1:(w.alloc (.cells #[.int .i64 0,.int .i64 0,.int .i64 0,.int .i64 0,.int .i64 0,.int .i64 0,.string em9,.string em9,.string em9,.string em9,.int .i64 0,.slice none 0 0,.slice none 0 0] 28)).heap.size = w.heap.size + 1:=by simp
  have hR:=Rdr.make hb1 hv hB hl 296
  have hsl:∃ p n c,v = .slice p n c:=by
    obtain ⟨p,c,hp,-⟩:=hv
    exact ⟨p,_,c,hp⟩
  have k1:=readerOf_any v (w.alloc (.cells #[.int .i64 0,.int .i64 0,.int .i64 0,.int .i64 0,.int .i64 0,.int .i64 0,.string em9,.string em9,.string em9,.string em9,.int .i64 0,.slice none 0 0,.slice none 0 0] 28)) hsl
  have hb2:Below (w.alloc (.cells #[.int .i64 0,.int .i64 0,.int .i64 0,.int .i64 0,.int .i64 0,.int .i64 0,.string em9,.string em9,.string em9,.string em9,.int .i64 0,.slice none 0 0,.slice none 0 0] 28)).heap.size (w.alloc (.cells #[.int .i64 0,.int .i64 0,.int .i64 0,.int .i64 0,.int .i64 0,.int .i64 0,.string em9,.string em9,.string em9,.string em9,.int .i64 0,.slice none 0 0,.slice none 0 0] 28)) ((w.alloc (.cells #[.int .i64 0,.int .i64 0,.int .i64 0,.int .i64 0,.int .i64 0,.int .i64 0,.string em9,.string em9,.string em9,.string em9,.int .i64 0,.slice none 0 0,.slice none 0 0] 28)).alloc (.cells #[v,.bool false] 296)):=(Below.refl _ _).alloc (Nat.le_refl _) _
  have hbox2:EntAt _ w.heap.size noEV:=box_below hbox hb2
  have hwz:w.heap.size < ((w.alloc (.cells #[.int .i64 0,.int .i64 0,.int .i64 0,.int .i64 0,.int .i64 0,.int .i64 0,.string em9,.string em9,.string em9,.string em9,.int .i64 0,.slice none 0 0,.slice none 0 0] 28)).alloc (.cells #[v,.bool false] 296)).heap.size:=by simp;omega
  have k2:=wholeE_any w _ _ (xs,false) hR
  generalize whole10 goodE10 noE10 (pent10 (xs,false)) = R at *
  obtain ⟨x0,err⟩:=R
  dsimp only at k2
  obtain ⟨p0,n0,c0_,rfl⟩:=hsl
  rw [hz1] at k2 k1
  clear hR hv hB hbox hb2
  go_enter Tryz.func167,Tryz.ntmps167
  go_wp2_with fail
  refine k1.mono ?_
  rintro _ w2 ⟨rfl,rfl⟩
  clear k1
  go_wp2_with fail
  generalize (w.alloc (.cells #[.int .i64 0,.int .i64 0,.int .i64 0,.int .i64 0,.int .i64 0,.int .i64 0,.string em9,.string em9,.string em9,.string em9,.int .i64 0,.slice none 0 0,.slice none 0 0] 28)).alloc (.cells #[.slice p0 n0 c0_,.bool false] 296) = W2 at *
  refine k2.mono ?_
  rintro _ w3 ⟨X,rfl,hX,hM,hb3,hg3⟩
  have hbox3:EntAt w3 w.heap.size noEV:=grown_box hg3 hbox2 (by omega)
  have HX:Hid (X.e = x0):=hX
  clear k2 hbox2 hX
  obtain ⟨i,t,k,⟨ck,cs,cq,ckey,cold,cval,cunt,clim⟩,⟨⟨p,n,c⟩,⟨q,m,d⟩,f⟩⟩:=X
  unfold EntV.arr
  dsimp only
  have d0:=box_cell hbox3 0
  have d1:=box_cell hbox3 1
  have d2:=box_cell hbox3 2
  have d3:=box_cell hbox3 3
  have d4:=box_cell hbox3 4
  have d5:=box_cell hbox3 5
  have d6:=box_cell hbox3 6
  have d7:=box_cell hbox3 7
  have d8:=box_cell hbox3 8
  have d9:=box_cell hbox3 9
  have d10:=box_cell hbox3 10
  have d11:=box_cell hbox3 11
  have d12:=box_cell hbox3 12
  dsimp only [EntV.arr,noEV,zeroC9,noFV,nilS10] at d0 d1 d2 d3 d4 d5 d6 d7 d8 d9 d10 d11 d12
  have hlr:=box_lt hbox3
  have fb:=frozen9 hbox3
  go_wp2
  have hF:=fillE (b:=w.heap.size) (x0:=noEV) hbox3 i t k ck cs cq ckey cold cval cunt clim p n c q m d f
  have hO9:=((((((((((((((((((((((((((hM).cell (b:=w.heap.size) (by omega) 0 (.int .i64 i))).cell (b:=w.heap.size) (by omega) 1 (.int .i64 t))).cell (b:=w.heap.size) (by omega) 2 (.int .i64 k))).cell (b:=w.heap.size) (by omega) 3 (.int .i64 ck))).cell (b:=w.heap.size) (by omega) 4 (.int .i64 cs))).cell (b:=w.heap.size) (by omega) 5 (.int .i64 cq))).cell (b:=w.heap.size) (by omega) 6 (.string ckey))).cell (b:=w.heap.size) (by omega) 7 (.string cold))).cell (b:=w.heap.size) (by omega) 8 (.string cval))).cell (b:=w.heap.size) (by omega) 9 (.string cunt))).cell (b:=w.heap.size) (by omega) 10 (.int .i64 clim))).cell (b:=w.heap.size) (by omega) 11 (.slice p n c))).cell (b:=w.heap.size) (by omega) 12 (.slice q m d))
  have hB9:Below w.heap.size w _:=(((((((((((((hb3.setCell (p:=⟨w.heap.size,0,none⟩) (Nat.le_refl _) (.int .i64 i)).setCell (p:=⟨w.heap.size,1,none⟩) (Nat.le_refl _) (.int .i64 t)).setCell (p:=⟨w.heap.size,2,none⟩) (Nat.le_refl _) (.int .i64 k)).setCell (p:=⟨w.heap.size,3,none⟩) (Nat.le_refl _) (.int .i64 ck)).setCell (p:=⟨w.heap.size,4,none⟩) (Nat.le_refl _) (.int .i64 cs)).setCell (p:=⟨w.heap.size,5,none⟩) (Nat.le_refl _) (.int .i64 cq)).setCell (p:=⟨w.heap.size,6,none⟩) (Nat.le_refl _) (.string ckey)).setCell (p:=⟨w.heap.size,7,none⟩) (Nat.le_refl _) (.string cold)).setCell (p:=⟨w.heap.size,8,none⟩) (Nat.le_refl _) (.string cval)).setCell (p:=⟨w.heap.size,9,none⟩) (Nat.le_refl _) (.string cunt)).setCell (p:=⟨w.heap.size,10,none⟩) (Nat.le_refl _) (.int .i64 clim)).setCell (p:=⟨w.heap.size,11,none⟩) (Nat.le_refl _) (.slice p n c)).setCell (p:=⟨w.heap.size,12,none⟩) (Nat.le_refl _) (.slice q m d))
  exact bodyPost_ret (ret_cell9 rfl _ _ w.heap.size _ _ _ _ rfl hF Tryz.underlying28 rfl (by kernel_rfl)) rfl ⟨⟨i,t,k,⟨ck,cs,cq,ckey,cold,cval,cunt,clim⟩,⟨⟨p,n,c⟩,⟨q,m,d⟩,f⟩⟩,rfl,HX.out,hO9.mono (by omega),hB9⟩
def sameH10 (a b:Hard10):Bool:=decide (a.t = b.t) && decide (a.v = b.v) && decide (a.c = b.c)
set_option maxRecDepth 100000 in
set_option maxHeartbeats 1500000 in
theorem eqlH (t v c t' v' c':Int) (W:World):Sem.run Tryz.prog (binOp .eql 30 (.agg #[.int .i64 t,.int .i64 v,.int .i64 c]) (.agg #[.int .i64 t',.int .i64 v',.int .i64 c'])) W = .ok (.bool (sameH10 ⟨t,v,c⟩ ⟨t',v',c'⟩)) W:=by
  have u3:=Tryz.underlying3
  have a3:=Tryz.isAgg3
  have z3:=Tryz.sizeOf3
  have hS:Tryz.prog.underlying 30 = some (.struct (Tryz.prog.fieldsOf 30)):=by kernel_rfl
  have hp:Tryz.prog.stoodInHeld 30 = false:=by kernel_rfl
  rw [run_eql_struct,show (10000:Nat) = 9999 + 1 from rfl,run_equalIn_agg W 9999 30 _ _ hS hp]
  simp only [Program.fieldsOf,Tryz.underlying30]
  go_simp
  unfold sameH10
  by_cases h1:t = t'
  case neg=>simp [h1]
  by_cases h2:v = v'
  case neg=>simp [h1,h2]
  by_cases h3:c = c'
  case neg=>simp [h1,h2,h3]
  simp [h1,h2,h3]
end Go.Proofs.YtkbbhllchombdaaGreatDoor
