import Derived.Test.YtkbbhllchombdaaGreatDoorWaV
import Derived.Test.YtkbbhllchombdaaGreatDoorWaQTo
import Derived.Test.YtkbbhllchombdaaGreatDoorEp1To
import Derived.Test.YtkbbhllchombdaaGreatDoorLxTo
import Derived.Test.YtkbbhllchombdaaGreatDoorRef6To
import Derived.Test.YtkbbhllchombdaaGreatDoorLd
import Derived.Deep.DeepCutAuto
import Derived.Deep.RegionHeld3
import Derived.Test.YtkbbhllchombdaaGreatDoorWaXTo
import Derived.Test.YtkbbhllchombdaaGreatDoorDkM
import Derived.Test.YtkbbhllchombdaaGreatDoorEr4To
namespace Go.Proofs.YtkbbhllchombdaaGreatDoor
open Go.RowKit Go.Shelf
attribute [local go_sem ↓] ldE_exec ldE_run stE_exec stE_run ldC_exec ldC_run stC_exec stC_run ldW_exec stW_exec ldR_exec stR_exec ldT_exec stT_exec ldU_exec stU_exec oc_int oc_bool oc_string oc_slice oc_pointer
theorem recB_frame (r:Rec11):recB11 r = if goodR11 r = true then frameF (bodyR11 r) else []:=by
  unfold recB11 frameF
  by_cases hg:goodR11 r = true
  · rw [hg,if_pos rfl,Bool.true_and]
    by_cases hl:(bodyR11 r).length≤1048576
    · rw [decide_eq_true hl,if_pos rfl,if_neg (by omega)]
    · rw [decide_eq_false hl,if_neg (by decide),if_pos (by omega)]
  · rw [if_neg hg,if_neg]
    simp [hg]
theorem partR_isB (r:Rec11):IsB (partR11 r):=by
  unfold partR11
  split
  · exact entB_isB _
  · split
    · exact IsB.append (IsB.append (zigB_isB _) (zigB_isB _)) (zigB_isB _)
    · exact IsB.append (zigB_isB _) (zigB_isB _)
set_option maxRecDepth 100000 in
set_option maxHeartbeats 1500000 in
theorem rnum11_any (w:World) (v:Value) (xs:List Int) (n:Int) (h:Has w v xs) (hl:xs.length≤1073741824) :
    Calls Tryz.prog 46 #[v,.int .i64 n] w fun e w'=>∃ v',e = .returned v'∧Owns w' w.heap.size 5 v' (xs++zigB n)∧Below w.heap.size w w':=by
  have hzz:=rzig_any n w
  have hzb:=zig_bd n
  have hpp:=rput_cod v xs (zigS n) w h (by omega) hzb.1 hzb.2
  have HZ:Hid (zigB n = numB (zigS n)):=rfl
  generalize zigS n = z at *
  go_enter Tryz.func46,Tryz.ntmps46
  go_wp2_with fail
  refine same_mono hzz ?_
  go_wp2_with fail
  refine hpp.mono ?_
  rintro e w3 ⟨v3,rfl,ho3,hb3⟩
  go_wp2
  go_ret
  exact ⟨_,rfl,by rw [HZ.out];exact ho3,hb3⟩
theorem keepN {w1 wA wB:World} {b:Nat} {xb17 xb18:Value} (hlb:b < w1.heap.size) (h:wA.cell? ⟨b,17,none⟩ = some xb17∧wA.cell? ⟨b,18,none⟩ = some xb18∧Below w1.heap.size w1 wA) (hb:Below wA.heap.size wA wB) :
    wB.cell? ⟨b,17,none⟩ = some xb17∧wB.cell? ⟨b,18,none⟩ = some xb18∧Below w1.heap.size w1 wB:=by
  obtain ⟨h0,h1,hz⟩:=h
  have hs:=hz.size
  exact ⟨(hb.cell (p:=⟨b,17,none⟩) (by exact Nat.lt_of_lt_of_le hlb hs)).trans h0,(hb.cell (p:=⟨b,18,none⟩) (by exact Nat.lt_of_lt_of_le hlb hs)).trans h1,hz.trans (hb.mono hs)⟩
theorem keepN0 {w1:World} {b:Nat} {xb17 xb18:Value} (h0:w1.cell? ⟨b,17,none⟩ = some xb17) (h1:w1.cell? ⟨b,18,none⟩ = some xb18):w1.drew.cell? ⟨b,17,none⟩ = some xb17∧w1.drew.cell? ⟨b,18,none⟩ = some xb18∧Below w1.heap.size w1 w1.drew :=
  ⟨h0,h1,⟨rfl,rfl,rfl,Nat.le_refl _,fun _ _=>rfl⟩⟩
theorem keepNB {w1 wA:World} {b:Nat} {xb17 xb18:Value} (h:wA.cell? ⟨b,17,none⟩ = some xb17∧wA.cell? ⟨b,18,none⟩ = some xb18∧Below w1.heap.size w1 wA):Below w1.heap.size w1 wA:=h.2.2
set_option maxRecDepth 100000 in
set_option maxHeartbeats 4000000 in
theorem rbytesR_any (w:World) (x:RecV) (hF:FitsR w x) (hf:FewF x.e.f.f) (hc0:FewC x.e.c) :
    Calls Tryz.prog 18 #[.agg x.arr] w (Outs w (recB11 x.r)):=by
  obtain ⟨i0,hi,hz0,hz1,hz2⟩:=info_parts info8c
  have hb1:Below w.heap.size w (w.alloc (.cells x.arr 44)):=(Below.refl _ _).alloc (Nat.le_refl _) _
  have hbox:RecAtD (w.alloc (.cells x.arr 44)) w.heap.size x:=heap_alloc_new w _
  have HB:Hid (recB11 x.r = if goodR11 x.r = true then frameF (zigB x.k++partR11 x.r) else []):=recB_frame x.r
  have kn:=rnum11_any (w.alloc (.cells x.arr 44)) (.slice none 0 0) [] x.k (Has.nil _) (by simp)
  rw [List.nil_append] at kn
  have hlk:=zigB_le x.k
  have K1:Hid (∀ W,Below w.heap.size w W→Calls Tryz.prog 47 #[.agg x.e.arr] W fun e w'=>e = .returned (.bool (goodE10 x.e.e))∧Below W.heap.size W w'):=fun W h=>rgoodE_any x.e W (hF.e.below h)
  have K2:Hid (∀ W,Below w.heap.size w W→Calls Tryz.prog 48 #[.agg x.e.arr] W (Outs W (entB x.e.e))):=fun W h=>rbytesE_any W x.e (hF.e.f.below h) hf hc0
  have K3:Hid (∀ W,Calls Tryz.prog 49 #[.agg x.h.arr] W fun e w'=>e = .returned (.bool (goodH10 x.h))∧Below W.heap.size W w'):=fun W=>rgoodHard_any x.h W
  have K4:Hid (∀ W,Calls Tryz.prog 50 #[.agg x.h.arr] W (Outs W (hardB x.h))):=fun W=>rbytesH_any W x.h
  have KF:Hid (∀ W v ys,Has W v ys→ys.length≤1000000→IsB ys→Calls Tryz.prog 51 #[v] W fun e w'=>∃ v',e = .returned v'∧Has w' v' (frameF ys)∧Below W.heap.size W w'):=fun W v ys h hl hB=>rframe_any v ys W h (by omega) hB
  have hle:(entB x.e.e).length≤100000:=entB_len hc0 hf
  have hlh:(hardB x.h).length≤27:=by
    unfold hardB
    have:=zigB_le x.h.t
    have:=zigB_le x.h.v
    have:=zigB_le x.h.c
    simp only [List.length_append]
    omega
  have hli:=zigB_le x.i
  have hlt':=zigB_le x.t
  have HPB:Hid (IsB (zigB x.k++partR11 x.r)):=IsB.append (zigB_isB _) (partR_isB _)
  have P1:Hid (x.k = 1→goodR11 x.r = goodE10 x.e.e∧partR11 x.r = entB x.e.e):=fun h=>⟨if_pos h,if_pos h⟩
  have P2:Hid (x.k = 2→goodR11 x.r = goodH10 x.h∧partR11 x.r = hardB x.h):=fun h=>by
    have h1:¬ x.r.k = 1:=fun e=>by have:x.k = 1:=e;omega
    exact ⟨(if_neg h1).trans (if_pos h),(if_neg h1).trans (if_pos h)⟩
  have P3:Hid (x.k = 3→goodR11 x.r = (decide (0≤x.i) && decide (0≤x.t))∧partR11 x.r = zigB x.i++zigB x.t):=fun h=>by
    have h1:¬ x.r.k = 1:=fun e=>by have:x.k = 1:=e;omega
    have h2:¬ x.r.k = 2:=fun e=>by have:x.k = 2:=e;omega
    exact ⟨(if_neg h1).trans ((if_neg h2).trans (if_pos h)),(if_neg h1).trans (if_neg h2)⟩
  have P4:Hid (x.k ≠ 1→x.k ≠ 2→x.k ≠ 3→goodR11 x.r = false):=fun h1 h2 h3=>(if_neg h1).trans ((if_neg h2).trans (if_neg h3))
  generalize goodR11 x.r = gr at *
  generalize partR11 x.r = pr at *
  generalize recB11 x.r = bs at *
  generalize goodE10 x.e.e = ge at *
  generalize entB x.e.e = eb at *
  generalize goodH10 x.h = gh at *
  generalize hardB x.h = hb at *
  clear hF hf hc0
  obtain ⟨k,⟨xi,xt,xk,⟨ck,cs,cq,ckey,cold,cval,cunt,clim⟩,⟨⟨p1,n1,c1⟩,⟨q1,m1,d1⟩,f1⟩⟩,⟨ht,hv,hc⟩,ri,rt⟩:=x
  unfold RecV.arr at *
  unfold EntV.arr Hard10.arr at *
  dsimp only at *
  generalize zigB k = zk at *
  go_enter Tryz.func18,Tryz.ntmps18
  go_wp2_with fail
  generalize w.alloc (.cells #[.int .i64 k,.int .i64 xi,.int .i64 xt,.int .i64 xk,.int .i64 ck,.int .i64 cs,.int .i64 cq,.string ckey,.string cold,.string cval,.string cunt,.int .i64 clim,.slice p1 n1 c1,.slice q1 m1 d1,.int .i64 ht,.int .i64 hv,.int .i64 hc,.int .i64 ri,.int .i64 rt] 44) = W1 at *
  refine kn.mono ?_
  rintro _ w3 ⟨v3,rfl,ho3,hb3⟩
  have hB3:=hb1.trans (hb3.mono hb1.size)
  have hw1:=hb1.size
  have hs3:=hb3.size
  have hbox3:RecAtD w3 w.heap.size ⟨k,⟨xi,xt,xk,⟨ck,cs,cq,ckey,cold,cval,cunt,clim⟩,⟨⟨p1,n1,c1⟩,⟨q1,m1,d1⟩,f1⟩⟩,⟨ht,hv,hc⟩,ri,rt⟩:=box_below hbox hb3
  clear kn hbox hb3
  have y0:=box_cell hbox3 0
  have y1:=box_cell hbox3 1
  have y2:=box_cell hbox3 2
  have y3:=box_cell hbox3 3
  have y4:=box_cell hbox3 4
  have y5:=box_cell hbox3 5
  have y6:=box_cell hbox3 6
  have y7:=box_cell hbox3 7
  have y8:=box_cell hbox3 8
  have y9:=box_cell hbox3 9
  have y10:=box_cell hbox3 10
  have y11:=box_cell hbox3 11
  have y12:=box_cell hbox3 12
  have y13:=box_cell hbox3 13
  have y14:=box_cell hbox3 14
  have y15:=box_cell hbox3 15
  have y16:=box_cell hbox3 16
  have y17:=box_cell hbox3 17
  have y18:=box_cell hbox3 18
  dsimp only [RecV.arr] at y0 y1 y2 y3 y4 y5 y6 y7 y8 y9 y10 y11 y12 y13 y14 y15 y16 y17 y18
  have hl3:=box_lt hbox3
  by_cases e1:k = 1
  · obtain ⟨g1,g2⟩:=P1.out e1
    have k1:=K1.out w3 hB3
    subst e1
    cases ge with
    | false =>
      have HR:Hid (bs = []):=by rw [Hid,HB.out,g1,if_neg (by decide)]
      clear HB
      go_wp2_with fail
      refine k1.mono ?_
      rintro _ w4 ⟨rfl,hb4⟩
      go_wp2
      go_ret
      exact ⟨_,rfl,by rw [HR.out];exact Has.nil _,hB3.trans (hb4.mono hB3.size)⟩
    | true =>
      have HR:Hid (bs = frameF (zk++eb)):=by rw [Hid,HB.out,g1,if_pos rfl,g2]
      rw [g2] at HPB
      clear HB
      go_wp2_with fail
      refine k1.mono ?_
      rintro _ w4 ⟨rfl,hb4⟩
      have hB4:=hB3.trans (hb4.mono hB3.size)
      have hs4:=hb4.size
      have hbox4:RecAtD w4 w.heap.size ⟨1,⟨xi,xt,xk,⟨ck,cs,cq,ckey,cold,cval,cunt,clim⟩,⟨⟨p1,n1,c1⟩,⟨q1,m1,d1⟩,f1⟩⟩,⟨ht,hv,hc⟩,ri,rt⟩:=box_below hbox3 hb4
      have ho4:=ho3.below hb4 (Nat.le_refl _)
      clear k1 y0 y1 y2 y3 y4 y5 y6 y7 y8 y9 y10 y11 y12 y13 y14 y15 y16 y17 y18 hl3 hbox3 ho3 hb4
      have y1:=box_cell hbox4 1
      have y2:=box_cell hbox4 2
      have y3:=box_cell hbox4 3
      have y4:=box_cell hbox4 4
      have y5:=box_cell hbox4 5
      have y6:=box_cell hbox4 6
      have y7:=box_cell hbox4 7
      have y8:=box_cell hbox4 8
      have y9:=box_cell hbox4 9
      have y10:=box_cell hbox4 10
      have y11:=box_cell hbox4 11
      have y12:=box_cell hbox4 12
      have y13:=box_cell hbox4 13
      dsimp only [RecV.arr] at y1 y2 y3 y4 y5 y6 y7 y8 y9 y10 y11 y12 y13
      have hl4:=box_lt hbox4
      have k2:=K2.out w4 hB4
      go_wp2_with fail
      refine k2.mono ?_
      rintro _ w5 ⟨v5,rfl,ho5,hb5⟩
      have hB5:=hB4.trans (hb5.mono hB4.size)
      have ho5':=ho4.below hb5 (Nat.le_refl _)
      have hs5:=hb5.size
      have hsz:W1.heap.size≤w5.heap.size:=by omega
      clear k2 ho4 hb5 hbox4 y1 y2 y3 y4 y5 y6 y7 y8 y9 y10 y11 y12 y13 hl4
      go_wp2_with (at_builtin;refine ap_slice _ rfl (.tmp 15) (.tmp 18) 33 rfl W1.heap.size 5 i0 Tryz.underlying33 hi hz0 hz1 hz2 _ zk eb rfl (by exact ho5) (by exact ho5') (by omega) (by omega) (by exact hsz) ?_;intro v6 w6 ho6 hb6)
      have hB6:=hB5.trans (hb6.mono hw1)
      refine (KF.out w6 v6 _ ho6.has (by rw [List.length_append];omega) HPB.out).mono ?_
      rintro _ w7 ⟨v7,rfl,ho7,hb7⟩
      go_wp2
      go_ret
      exact ⟨_,rfl,by rw [HR.out];exact ho7,hB6.trans (hb7.mono hB6.size)⟩
  have e1':(k == 1) = false:=by simpa using e1
  by_cases e2:k = 2
  · obtain ⟨g1,g2⟩:=P2.out e2
    have k1:=K3.out w3
    subst e2
    cases gh with
    | false =>
      have HR:Hid (bs = []):=by rw [Hid,HB.out,g1,if_neg (by decide)]
      clear HB
      go_wp2_with fail
      refine k1.mono ?_
      rintro _ w4 ⟨rfl,hb4⟩
      go_wp2
      go_ret
      exact ⟨_,rfl,by rw [HR.out];exact Has.nil _,hB3.trans (hb4.mono hB3.size)⟩
    | true =>
      have HR:Hid (bs = frameF (zk++hb)):=by rw [Hid,HB.out,g1,if_pos rfl,g2]
      rw [g2] at HPB
      clear HB
      go_wp2_with fail
      refine k1.mono ?_
      rintro _ w4 ⟨rfl,hb4⟩
      have hB4:=hB3.trans (hb4.mono hB3.size)
      have hs4:=hb4.size
      have hbox4:RecAtD w4 w.heap.size ⟨2,⟨xi,xt,xk,⟨ck,cs,cq,ckey,cold,cval,cunt,clim⟩,⟨⟨p1,n1,c1⟩,⟨q1,m1,d1⟩,f1⟩⟩,⟨ht,hv,hc⟩,ri,rt⟩:=box_below hbox3 hb4
      have ho4:=ho3.below hb4 (Nat.le_refl _)
      clear k1 y0 y1 y2 y3 y4 y5 y6 y7 y8 y9 y10 y11 y12 y13 y14 y15 y16 y17 y18 hl3 hbox3 ho3 hb4
      have y14:=box_cell hbox4 14
      have y15:=box_cell hbox4 15
      have y16:=box_cell hbox4 16
      dsimp only [RecV.arr] at y14 y15 y16
      have hl4:=box_lt hbox4
      have k2:=K4.out w4
      go_wp2_with fail
      refine k2.mono ?_
      rintro _ w5 ⟨v5,rfl,ho5,hb5⟩
      have hB5:=hB4.trans (hb5.mono hB4.size)
      have ho5':=ho4.below hb5 (Nat.le_refl _)
      have hs5:=hb5.size
      have hsz:W1.heap.size≤w5.heap.size:=by omega
      clear k2 ho4 hb5 hbox4 y14 y15 y16 hl4
      go_wp2_with (at_builtin;refine ap_slice _ rfl (.tmp 26) (.tmp 29) 33 rfl W1.heap.size 5 i0 Tryz.underlying33 hi hz0 hz1 hz2 _ zk hb rfl (by exact ho5) (by exact ho5') (by omega) (by omega) (by exact hsz) ?_;intro v6 w6 ho6 hb6)
      have hB6:=hB5.trans (hb6.mono hw1)
      refine (KF.out w6 v6 _ ho6.has (by rw [List.length_append];omega) HPB.out).mono ?_
      rintro _ w7 ⟨v7,rfl,ho7,hb7⟩
      go_wp2
      go_ret
      exact ⟨_,rfl,by rw [HR.out];exact ho7,hB6.trans (hb7.mono hB6.size)⟩
  have e2':(k == 2) = false:=by simpa using e2
  by_cases e3:k = 3
  · obtain ⟨g1,g2⟩:=P3.out e3
    subst e3
    by_cases h1:ri < 0
    · have HR:Hid (bs = []):=by rw [Hid,HB.out,g1,decide_eq_false (p:=0≤ri) (by omega),Bool.false_and,if_neg (by decide)]
      clear HB
      go_wp2
      go_ret
      exact ⟨_,rfl,by rw [HR.out];exact Has.nil _,hB3⟩
    by_cases h2:rt < 0
    · have HR:Hid (bs = []):=by rw [Hid,HB.out,g1,decide_eq_false (p:=0≤rt) (by omega),Bool.and_false,if_neg (by decide)]
      clear HB
      go_wp2
      go_ret
      exact ⟨_,rfl,by rw [HR.out];exact Has.nil _,hB3⟩
    have HR:Hid (bs = frameF (zk++zigB ri++zigB rt)):=by rw [Hid,HB.out,g1,decide_eq_true (p:=0≤ri) (by omega),decide_eq_true (p:=0≤rt) (by omega),Bool.true_and,if_pos rfl,g2,List.append_assoc]
    rw [g2,← List.append_assoc] at HPB
    clear HB
    have n1:Hid (∀ W,Below w3.heap.size w3 W→Calls Tryz.prog 46 #[v3,.int .i64 ri] W fun e w'=>∃ v',e = .returned v'∧Owns w' W.heap.size 5 v' (zk++zigB ri)∧Below W.heap.size W w'):=fun W h=>rnum11_any W v3 zk ri (ho3.has.below h (Nat.le_refl _)) (by omega)
    have n2:Hid (∀ W u,Has W u (zk++zigB ri)→Calls Tryz.prog 46 #[u,.int .i64 rt] W fun e w'=>∃ v',e = .returned v'∧Owns w' W.heap.size 5 v' (zk++zigB ri++zigB rt)∧Below W.heap.size W w'):=fun W u h=>rnum11_any W u _ rt h (by rw [List.length_append];omega)
    have hly2:(zk++zigB ri).length≤100:=by rw [List.length_append];omega
    generalize zk++zigB ri = y2 at *
    have s0:=keepN0 y17 y18
    obtain ⟨p3,q3,rfl,-,-,-⟩:=id ho3.has
    generalize hz3:zk.length = n3 at *
    go_upto_region 15 with fail
    generalize hbb:w.heap.size = bx at *
    have Hbb:Hid (w.heap.size = bx):=hbb
    have HB3:Hid (Below bx w w3):=hB3
    have HSz:Hid (bx≤w3.heap.size):=by rw [Hid];omega
    clear hbb hB3
    go_region_held3 (fun w'=>w'.cell? ⟨bx,17,none⟩ = some (.int .i64 ri)∧w'.cell? ⟨bx,18,none⟩ = some (.int .i64 rt)∧Below w3.heap.size w3 w')
      (first | exact s0 | assumption | exact keepN hl3 (by assumption) (by assumption))
      (first
        | (go_at_call 46;(with_reducible refine Calls.mono (n1.out _ (keepNB (by assumption))) ?_);rintro _ w4 ⟨v4,rfl,ho4,hb4⟩;obtain ⟨p4,q4,rfl,-,-,-⟩:=id ho4.has)
        | (go_at_call 46;(with_reducible refine Calls.mono (n2.out _ _ ho4.has) ?_);rintro _ w5 ⟨v5,rfl,ho5,hb5⟩))
    all_goals
      have hW:Below w3.heap.size w3 w5:=keepNB (by assumption)
      have hB5:Below w.heap.size w w5:=by rw [Hbb.out];exact HB3.out.trans (hW.mono HSz.out)
      have kf:=KF.out w5 v5 _ ho5.has (by rw [List.length_append];omega) HPB.out
      go_wp2_with fail
      refine kf.mono ?_
      rintro _ w7 ⟨v7,rfl,ho7,hb7⟩
      go_wp2
      go_ret
      exact ⟨_,rfl,by rw [HR.out];exact ho7,hB5.trans (hb7.mono hB5.size)⟩
  have e3':(k == 3) = false:=by simpa using e3
  have HR:Hid (bs = []):=by rw [Hid,HB.out,P4.out e1 e2 e3,if_neg (by decide)]
  clear HB
  go_wp2
  go_ret
  exact ⟨_,rfl,by rw [HR.out];exact Has.nil _,hB3⟩
end Go.Proofs.YtkbbhllchombdaaGreatDoor

namespace Go.Proofs.YtkbbhllchombdaaGreatDoor
open Go.RowKit Go.Shelf
attribute [local go_sem ↓] ldE_exec stE_exec ldE_execI stE_execI ldE_run ldE_box stE_box ldC_exec stC_exec ldC_execI stC_execI ldC_run ldW_exec stW_exec ldW_execI stW_execI ldW_box stW_box ldR_exec stR_exec ldR_execI stR_execI ldR_box stR_box ldT_exec stT_exec ldT_execI stT_execI ldT_box ldU_exec stU_exec ldU_execI stU_execI ldH_exec stH_exec ldH_execI stH_execI ldH_run ldH_box stH_box oc_int oc_bool oc_string oc_slice oc_pointer
attribute [local go_sem ↓] slF_exec slF_execI slF_run
structure OwnsR (w:World) (B:Nat) (x:RecV):Prop where
  k:inI x.k
  e:OwnsE w B x.e
  h:FitsH x.h
  i:inI x.i
  t:inI x.t
theorem OwnsR.fits {w:World} {B:Nat} {x:RecV} (h:OwnsR w B x):FitsR w x:=⟨h.k,h.e.fits,h.h,h.i,h.t⟩
theorem OwnsR.below {w w':World} {B:Nat} {x:RecV} (h:OwnsR w B x) (hb:Below w.heap.size w w'):OwnsR w' B x:=⟨h.k,h.e.below hb,h.h,h.i,h.t⟩
theorem OwnsR.mono {w:World} {B B':Nat} {x:RecV} (h:OwnsR w B x) (hB:B'≤B):OwnsR w B' x:=⟨h.k,h.e.mono hB,h.h,h.i,h.t⟩
theorem OwnsR.kept {w w':World} {B r:Nat} {x:RecV} (h:OwnsR w B x) (hg:w.grownBy w' (some r)) (hr:r < B):OwnsR w' B x:=⟨h.k,h.e.kept hg hr,h.h,h.i,h.t⟩
theorem on_drew {B:Nat} {w W:World} (h:Below B w W):Below B w W.drew:=⟨h.os,h.tape,h.output,h.size,h.block⟩
theorem in0:inI 0:=⟨by decide,by decide⟩
theorem OwnsR.nil (w:World) (B:Nat):OwnsR w B noRV:=⟨in0,OwnsE.nil w B,⟨in0,in0,in0⟩,in0,in0⟩
theorem in1:inI 1:=⟨by decide,by decide⟩
theorem in2:inI 2:=⟨by decide,by decide⟩
theorem in3:inI 3:=⟨by decide,by decide⟩
theorem wholeH_fits (ys:List Int):FitsH (whole10 goodH10 noH10 (hard10 (ys,false))).1:=by
  unfold whole10
  split
  · exact ⟨int9_in _,int9_in _,int9_in _⟩
  · exact ⟨in0,in0,in0⟩
theorem whole_two {α:Type} (g:α→Bool) (n:α) (r:α × St):(whole10 g n r).2 = 0∨(whole10 g n r).2 = 8:=by
  unfold whole10
  split
  · exact .inl rfl
  · exact .inr rfl
set_option maxRecDepth 100000 in
set_option maxHeartbeats 4000000 in
theorem rread11_any (v:Value) (xs:List Int) (w:World) (hv:Has w v xs) (hB:IsB xs) (hl:xs.length≤1073741824) :
    Calls Tryz.prog 38 #[v] w fun e w'=>∃ X:RecV,e = .returned (.tuple #[.agg X.arr,.bool (readR11 xs).2])∧X.r = (readR11 xs).1∧OwnsR w' w.heap.size X∧Below w.heap.size w w':=by
  have hb1:Below w.heap.size w (w.alloc (.cells noRV.arr 44)):=(Below.refl _ _).alloc (Nat.le_refl _) _
  have hbox:(w.alloc (.cells noRV.arr 44)).heap[w.heap.size]? = some (.cells noRV.arr 44 (0,0)):=heap_alloc_new w _
  have hbd:=getS_bd xs
  have HR:Hid (readR11 xs = if (getS xs).2 = 0 then (noR11,false) else readK11 (zagS (getS xs).1) (xs.drop (getS xs).2)):=rfl
  have KG:Hid (∀ W,Below w.heap.size w W→Calls Tryz.prog 97 #[v] W fun e w'=>e = .returned (.tuple #[.int .u64 (getS xs).1,.int .i64 ((getS xs).2:Nat)])∧w' = W):=fun W hW=>rget_cod v xs W (hv.below hW (Nat.le_refl _)) hB (by omega)
  obtain ⟨p,c,rfl,hc,hnone,hcell⟩:=id hv
  generalize getS xs = g at *
  obtain ⟨u,n⟩:=g
  obtain ⟨h0,h1,h2,h3⟩:=hbd
  dsimp only at h0 h1 h2 h3 HR KG
  generalize readR11 xs = R at *
  have KZ:Hid (∀ W,Calls Tryz.prog 98 #[.int .u64 u] W fun e w'=>e = .returned (.int .i64 (zagS u))∧w' = W):=fun W=>rzag_any u W
  generalize zagS u = K at *
  unfold RecV.arr noRV noEV zeroC9 noFV nilS10 at *
  dsimp only at *
  go_enter Tryz.func38,Tryz.ntmps38
  go_upto_region 2 with (go_at_call 97;refine (KG.out _ (by first | exact hb1 | exact on_drew hb1)).mono ?_;rintro _ _ ⟨rfl,rfl⟩)
  have hz1:(w.alloc (.cells #[.int .i64 0,.int .i64 0,.int .i64 0,.int .i64 0,.int .i64 0,.int .i64 0,.int .i64 0,.string ⟨#[]⟩,.string ⟨#[]⟩,.string ⟨#[]⟩,.string ⟨#[]⟩,.int .i64 0,.slice none 0 0,.slice none 0 0,.int .i64 0,.int .i64 0,.int .i64 0,.int .i64 0,.int .i64 0] 44)).heap.size = w.heap.size + 1:=by simp
  generalize w.alloc (.cells #[.int .i64 0,.int .i64 0,.int .i64 0,.int .i64 0,.int .i64 0,.int .i64 0,.int .i64 0,.string ⟨#[]⟩,.string ⟨#[]⟩,.string ⟨#[]⟩,.string ⟨#[]⟩,.int .i64 0,.slice none 0 0,.slice none 0 0,.int .i64 0,.int .i64 0,.int .i64 0,.int .i64 0,.int .i64 0] 44) = W1 at *
  have hbx:=heap_alloc_new W1 (.cells #[.int .i64 0,.int .i64 0,.int .i64 0,.int .i64 0,.int .i64 0,.int .i64 0,.int .i64 0,.string ⟨#[]⟩,.string ⟨#[]⟩,.string ⟨#[]⟩,.string ⟨#[]⟩,.int .i64 0,.slice none 0 0,.slice none 0 0,.int .i64 0,.int .i64 0,.int .i64 0,.int .i64 0,.int .i64 0] 44)
  rw [hz1] at hbx
  have hth:=there_box hbx 0 19 (Nat.le_refl _)
  have hbx2:=setCells_box hbx 0 [.int .i64 K,.int .i64 0,.int .i64 0,.int .i64 0,.int .i64 0,.int .i64 0,.int .i64 0,.string ⟨#[]⟩,.string ⟨#[]⟩,.string ⟨#[]⟩,.string ⟨#[]⟩,.int .i64 0,.slice none 0 0,.slice none 0 0,.int .i64 0,.int .i64 0,.int .i64 0,.int .i64 0,.int .i64 0] #[.int .i64 K,.int .i64 0,.int .i64 0,.int .i64 0,.int .i64 0,.int .i64 0,.int .i64 0,.string ⟨#[]⟩,.string ⟨#[]⟩,.string ⟨#[]⟩,.string ⟨#[]⟩,.int .i64 0,.slice none 0 0,.slice none 0 0,.int .i64 0,.int .i64 0,.int .i64 0,.int .i64 0,.int .i64 0] (Nat.le_refl _) rfl
  have hb2:Below w.heap.size w ((W1.alloc (.cells #[.int .i64 0,.int .i64 0,.int .i64 0,.int .i64 0,.int .i64 0,.int .i64 0,.int .i64 0,.string ⟨#[]⟩,.string ⟨#[]⟩,.string ⟨#[]⟩,.string ⟨#[]⟩,.int .i64 0,.slice none 0 0,.slice none 0 0,.int .i64 0,.int .i64 0,.int .i64 0,.int .i64 0,.int .i64 0] 44)).setCells (w.heap.size + 1) 0 [.int .i64 K,.int .i64 0,.int .i64 0,.int .i64 0,.int .i64 0,.int .i64 0,.int .i64 0,.string ⟨#[]⟩,.string ⟨#[]⟩,.string ⟨#[]⟩,.string ⟨#[]⟩,.int .i64 0,.slice none 0 0,.slice none 0 0,.int .i64 0,.int .i64 0,.int .i64 0,.int .i64 0,.int .i64 0]):=setCells_below (by omega) _ _ (hb1.alloc hb1.size _)
  have hres2:((W1.alloc (.cells #[.int .i64 0,.int .i64 0,.int .i64 0,.int .i64 0,.int .i64 0,.int .i64 0,.int .i64 0,.string ⟨#[]⟩,.string ⟨#[]⟩,.string ⟨#[]⟩,.string ⟨#[]⟩,.int .i64 0,.slice none 0 0,.slice none 0 0,.int .i64 0,.int .i64 0,.int .i64 0,.int .i64 0,.int .i64 0] 44)).setCells (w.heap.size + 1) 0 [.int .i64 K,.int .i64 0,.int .i64 0,.int .i64 0,.int .i64 0,.int .i64 0,.int .i64 0,.string ⟨#[]⟩,.string ⟨#[]⟩,.string ⟨#[]⟩,.string ⟨#[]⟩,.int .i64 0,.slice none 0 0,.slice none 0 0,.int .i64 0,.int .i64 0,.int .i64 0,.int .i64 0,.int .i64 0]).heap[w.heap.size]? = some (.cells #[.int .i64 0,.int .i64 0,.int .i64 0,.int .i64 0,.int .i64 0,.int .i64 0,.int .i64 0,.string ⟨#[]⟩,.string ⟨#[]⟩,.string ⟨#[]⟩,.string ⟨#[]⟩,.int .i64 0,.slice none 0 0,.slice none 0 0,.int .i64 0,.int .i64 0,.int .i64 0,.int .i64 0,.int .i64 0] 44 (0,0)):=grown_box (setCells_grown _ _ _ _) (box_below hbox ((Below.refl _ _).alloc (Nat.le_refl _) _)) (by omega)
  clear hbx hb1 hbox
  go_upto_region 3 with (go_at_call 98;refine same_mono (KZ.out _) ?_)
  clear hth
  generalize (W1.alloc (.cells #[.int .i64 0,.int .i64 0,.int .i64 0,.int .i64 0,.int .i64 0,.int .i64 0,.int .i64 0,.string ⟨#[]⟩,.string ⟨#[]⟩,.string ⟨#[]⟩,.string ⟨#[]⟩,.int .i64 0,.slice none 0 0,.slice none 0 0,.int .i64 0,.int .i64 0,.int .i64 0,.int .i64 0,.int .i64 0] 44)).setCells (w.heap.size + 1) 0 [.int .i64 K,.int .i64 0,.int .i64 0,.int .i64 0,.int .i64 0,.int .i64 0,.int .i64 0,.string ⟨#[]⟩,.string ⟨#[]⟩,.string ⟨#[]⟩,.string ⟨#[]⟩,.int .i64 0,.slice none 0 0,.slice none 0 0,.int .i64 0,.int .i64 0,.int .i64 0,.int .i64 0,.int .i64 0] = W2 at *
  by_cases hn0:n = 0
  · have HF:Hid (R = (noR11,false)):=by rw [Hid,HR.out,if_pos hn0]
    subst hn0
    clear HR KG KZ
    have hthr:=there_box hres2 0 19 (Nat.le_refl _)
    have hF:=setCells_box hres2 0 [.int .i64 0,.int .i64 0,.int .i64 0,.int .i64 0,.int .i64 0,.int .i64 0,.int .i64 0,.string ⟨#[]⟩,.string ⟨#[]⟩,.string ⟨#[]⟩,.string ⟨#[]⟩,.int .i64 0,.slice none 0 0,.slice none 0 0,.int .i64 0,.int .i64 0,.int .i64 0,.int .i64 0,.int .i64 0] #[.int .i64 0,.int .i64 0,.int .i64 0,.int .i64 0,.int .i64 0,.int .i64 0,.int .i64 0,.string ⟨#[]⟩,.string ⟨#[]⟩,.string ⟨#[]⟩,.string ⟨#[]⟩,.int .i64 0,.slice none 0 0,.slice none 0 0,.int .i64 0,.int .i64 0,.int .i64 0,.int .i64 0,.int .i64 0] (Nat.le_refl _) rfl
    have hB9:=setCells_below (Nat.le_refl _) [.int .i64 0,.int .i64 0,.int .i64 0,.int .i64 0,.int .i64 0,.int .i64 0,.int .i64 0,.string ⟨#[]⟩,.string ⟨#[]⟩,.string ⟨#[]⟩,.string ⟨#[]⟩,.int .i64 0,.slice none 0 0,.slice none 0 0,.int .i64 0,.int .i64 0,.int .i64 0,.int .i64 0,.int .i64 0] 0 hb2
    have hO9:OwnsR (W2.setCells w.heap.size 0 [.int .i64 0,.int .i64 0,.int .i64 0,.int .i64 0,.int .i64 0,.int .i64 0,.int .i64 0,.string ⟨#[]⟩,.string ⟨#[]⟩,.string ⟨#[]⟩,.string ⟨#[]⟩,.int .i64 0,.slice none 0 0,.slice none 0 0,.int .i64 0,.int .i64 0,.int .i64 0,.int .i64 0,.int .i64 0]) w.heap.size noRV:=OwnsR.nil _ _
    go_wp2
    refine bodyPost_ret (ret_cell9 rfl _ _ w.heap.size _ _ _ _ rfl hF Tryz.underlying44 rfl (by kernel_rfl)) rfl ⟨noRV,?_,?_,hO9,hB9⟩
    · rw [HF.out];rfl
    · rw [HF.out];rfl
  have e0:((n:Int) == 0) = false:=by simpa using hn0
  have HR2:Hid (R = readK11 K (xs.drop n)):=by rw [Hid,HR.out,if_neg hn0]
  have hcut0:=hv.cutV n h2
  have hcut:=hcut0.below hb2 (Nat.le_refl _)
  have hBd:IsB (xs.drop n):=fun z hz=>hB z (List.mem_of_mem_drop hz)
  have hld:(xs.drop n).length≤1073741824:=by rw [List.length_drop];omega
  have y0:W2.cell? ⟨w.heap.size + 1,0,none⟩ = some (.int .i64 K):=box_cell hbx2 0
  have hlb:=box_lt hbx2
  go_upto_region 9 with fail
  generalize cutV p xs.length c n = cv at *
  generalize xs.drop n = ys at *
  clear hcell hnone hv hB HR KG KZ y0
  by_cases k1:K = 1
  · have HRk:Hid (R = if (whole10 goodE10 noE10 (pent10 (ys,false))).2 = 0 then (⟨1,(whole10 goodE10 noE10 (pent10 (ys,false))).1,noH11,0,0⟩,true) else (noR11,false)):=by
      rw [Hid,HR2.out]
      unfold readK11
      rw [if_pos k1]
    have kr:=rreadE_own cv ys W2 hcut hBd hld
    have HA2:Hid ((whole10 goodE10 noE10 (pent10 (ys,false))).2 = 0∨(whole10 goodE10 noE10 (pent10 (ys,false))).2 = 8):=whole_two _ _ _
    generalize whole10 goodE10 noE10 (pent10 (ys,false)) = A at *
    subst k1
    clear HR2 hcut hcut0 hBd hld
    go_upto_region 19 with (go_at_call 99;refine kr.mono ?_;rintro _ w3 ⟨⟨xi,xt,xk,⟨ck,cs,cq,ckey,cold,cval,cunt,clim⟩,⟨⟨p1,n1,c1⟩,⟨q1,m1,d1⟩,f1⟩⟩,rfl,HX,hO3,hb3⟩;dsimp only [EntV.arr] at *;have hbx3:=box_below hbx2 hb3;have hth3:=there_box hbx3 1 13 (by decide);have hl3:=box_lt hbx3)
    clear kr
    have hbx4:=setCells_box hbx3 1 [.int .i64 xi,.int .i64 xt,.int .i64 xk,.int .i64 ck,.int .i64 cs,.int .i64 cq,.string ckey,.string cold,.string cval,.string cunt,.int .i64 clim,.slice p1 n1 c1,.slice q1 m1 d1] #[.int .i64 1,.int .i64 xi,.int .i64 xt,.int .i64 xk,.int .i64 ck,.int .i64 cs,.int .i64 cq,.string ckey,.string cold,.string cval,.string cunt,.int .i64 clim,.slice p1 n1 c1,.slice q1 m1 d1,.int .i64 0,.int .i64 0,.int .i64 0,.int .i64 0,.int .i64 0] (Nat.le_of_ble_eq_true rfl) rfl
    have hb4:Below w.heap.size w (w3.setCells (w.heap.size + 1) 1 [.int .i64 xi,.int .i64 xt,.int .i64 xk,.int .i64 ck,.int .i64 cs,.int .i64 cq,.string ckey,.string cold,.string cval,.string cunt,.int .i64 clim,.slice p1 n1 c1,.slice q1 m1 d1]):=setCells_below (by omega) _ _ (hb2.trans (hb3.mono hb2.size))
    have hres4:(w3.setCells (w.heap.size + 1) 1 [.int .i64 xi,.int .i64 xt,.int .i64 xk,.int .i64 ck,.int .i64 cs,.int .i64 cq,.string ckey,.string cold,.string cval,.string cunt,.int .i64 clim,.slice p1 n1 c1,.slice q1 m1 d1]).heap[w.heap.size]? = _:=grown_box (setCells_grown _ _ _ _) (box_below hres2 hb3) (by omega)
    have hg4:=setCells_grown (w.heap.size + 1) [.int .i64 xi,.int .i64 xt,.int .i64 xk,.int .i64 ck,.int .i64 cs,.int .i64 cq,.string ckey,.string cold,.string cval,.string cunt,.int .i64 clim,.slice p1 n1 c1,.slice q1 m1 d1] 1 w3
    have hO4:OwnsE _ W2.heap.size ⟨xi,xt,xk,⟨ck,cs,cq,ckey,cold,cval,cunt,clim⟩,⟨⟨p1,n1,c1⟩,⟨q1,m1,d1⟩,f1⟩⟩:=hO3.kept hg4 (by omega)
    generalize w3.setCells (w.heap.size + 1) 1 [.int .i64 xi,.int .i64 xt,.int .i64 xk,.int .i64 ck,.int .i64 cs,.int .i64 cq,.string ckey,.string cold,.string cval,.string cunt,.int .i64 clim,.slice p1 n1 c1,.slice q1 m1 d1] = W4 at *
    clear hbx3 hth3 hl3 hg4 hb3 hbx2 hres2 hb2
    have hld4:=ldR_box W4 _ _ _ _ hbx4 rfl
    clear hbx4
    rcases HA2.out with hA | hA
    · have HF:Hid (R = (⟨1,A.1,noH11,0,0⟩,true)):=by rw [Hid,HRk.out,if_pos hA]
      rw [hA]
      clear HRk HA2 hA
      have hthr:=there_box hres4 0 19 (Nat.le_refl _)
      have hF:=setCells_box hres4 0 [.int .i64 1,.int .i64 xi,.int .i64 xt,.int .i64 xk,.int .i64 ck,.int .i64 cs,.int .i64 cq,.string ckey,.string cold,.string cval,.string cunt,.int .i64 clim,.slice p1 n1 c1,.slice q1 m1 d1,.int .i64 0,.int .i64 0,.int .i64 0,.int .i64 0,.int .i64 0] #[.int .i64 1,.int .i64 xi,.int .i64 xt,.int .i64 xk,.int .i64 ck,.int .i64 cs,.int .i64 cq,.string ckey,.string cold,.string cval,.string cunt,.int .i64 clim,.slice p1 n1 c1,.slice q1 m1 d1,.int .i64 0,.int .i64 0,.int .i64 0,.int .i64 0,.int .i64 0] (Nat.le_refl _) rfl
      have hB9:=setCells_below (Nat.le_refl _) [.int .i64 1,.int .i64 xi,.int .i64 xt,.int .i64 xk,.int .i64 ck,.int .i64 cs,.int .i64 cq,.string ckey,.string cold,.string cval,.string cunt,.int .i64 clim,.slice p1 n1 c1,.slice q1 m1 d1,.int .i64 0,.int .i64 0,.int .i64 0,.int .i64 0,.int .i64 0] 0 hb4
      have hO9:OwnsR (W4.setCells w.heap.size 0 [.int .i64 1,.int .i64 xi,.int .i64 xt,.int .i64 xk,.int .i64 ck,.int .i64 cs,.int .i64 cq,.string ckey,.string cold,.string cval,.string cunt,.int .i64 clim,.slice p1 n1 c1,.slice q1 m1 d1,.int .i64 0,.int .i64 0,.int .i64 0,.int .i64 0,.int .i64 0]) w.heap.size ⟨1,⟨xi,xt,xk,⟨ck,cs,cq,ckey,cold,cval,cunt,clim⟩,⟨⟨p1,n1,c1⟩,⟨q1,m1,d1⟩,f1⟩⟩,⟨0,0,0⟩,0,0⟩:=⟨in1,(hO4.kept (setCells_grown _ _ _ _) (by omega)).mono (by omega),⟨in0,in0,in0⟩,in0,in0⟩
      go_wp2
      refine bodyPost_ret (ret_cell9 rfl _ _ w.heap.size _ _ _ _ rfl hF Tryz.underlying44 rfl (by kernel_rfl)) rfl ⟨⟨1,⟨xi,xt,xk,⟨ck,cs,cq,ckey,cold,cval,cunt,clim⟩,⟨⟨p1,n1,c1⟩,⟨q1,m1,d1⟩,f1⟩⟩,⟨0,0,0⟩,0,0⟩,?_,?_,hO9,hB9⟩
      · rw [HF.out];rfl
      · rw [HF.out];show (⟨1,_,noH11,0,0⟩:Rec11) = _;rw [← HX]
    · have HF:Hid (R = (noR11,false)):=by rw [Hid,HRk.out,if_neg (by omega)]
      rw [hA]
      clear HRk HA2 hA
      have hthr:=there_box hres4 0 19 (Nat.le_refl _)
      have hF:=setCells_box hres4 0 [.int .i64 0,.int .i64 0,.int .i64 0,.int .i64 0,.int .i64 0,.int .i64 0,.int .i64 0,.string ⟨#[]⟩,.string ⟨#[]⟩,.string ⟨#[]⟩,.string ⟨#[]⟩,.int .i64 0,.slice none 0 0,.slice none 0 0,.int .i64 0,.int .i64 0,.int .i64 0,.int .i64 0,.int .i64 0] #[.int .i64 0,.int .i64 0,.int .i64 0,.int .i64 0,.int .i64 0,.int .i64 0,.int .i64 0,.string ⟨#[]⟩,.string ⟨#[]⟩,.string ⟨#[]⟩,.string ⟨#[]⟩,.int .i64 0,.slice none 0 0,.slice none 0 0,.int .i64 0,.int .i64 0,.int .i64 0,.int .i64 0,.int .i64 0] (Nat.le_refl _) rfl
      have hB9:=setCells_below (Nat.le_refl _) [.int .i64 0,.int .i64 0,.int .i64 0,.int .i64 0,.int .i64 0,.int .i64 0,.int .i64 0,.string ⟨#[]⟩,.string ⟨#[]⟩,.string ⟨#[]⟩,.string ⟨#[]⟩,.int .i64 0,.slice none 0 0,.slice none 0 0,.int .i64 0,.int .i64 0,.int .i64 0,.int .i64 0,.int .i64 0] 0 hb4
      have hO9:OwnsR (W4.setCells w.heap.size 0 [.int .i64 0,.int .i64 0,.int .i64 0,.int .i64 0,.int .i64 0,.int .i64 0,.int .i64 0,.string ⟨#[]⟩,.string ⟨#[]⟩,.string ⟨#[]⟩,.string ⟨#[]⟩,.int .i64 0,.slice none 0 0,.slice none 0 0,.int .i64 0,.int .i64 0,.int .i64 0,.int .i64 0,.int .i64 0]) w.heap.size noRV:=OwnsR.nil _ _
      go_wp2
      refine bodyPost_ret (ret_cell9 rfl _ _ w.heap.size _ _ _ _ rfl hF Tryz.underlying44 rfl (by kernel_rfl)) rfl ⟨noRV,?_,?_,hO9,hB9⟩
      · rw [HF.out];rfl
      · rw [HF.out];rfl
  by_cases k2:K = 2
  · have HRk:Hid (R = if (whole10 goodH10 noH10 (hard10 (ys,false))).2 = 0 then (⟨2,noE10,(whole10 goodH10 noH10 (hard10 (ys,false))).1,0,0⟩,true) else (noR11,false)):=by
      rw [Hid,HR2.out]
      unfold readK11
      rw [if_neg k1,if_pos k2]
      rfl
    have hFH:∀ {X:Hard10},X = (whole10 goodH10 noH10 (hard10 (ys,false))).1→FitsH X:=fun h=>h ▸ wholeH_fits _
    have kr:=rreadH_any cv ys W2 hcut hBd hld
    have HA2:Hid ((whole10 goodH10 noH10 (hard10 (ys,false))).2 = 0∨(whole10 goodH10 noH10 (hard10 (ys,false))).2 = 8):=whole_two _ _ _
    generalize whole10 goodH10 noH10 (hard10 (ys,false)) = A at *
    subst k2
    clear HR2 hcut hcut0 hBd hld
    go_upto_region 19 with (go_at_call 100;refine kr.mono ?_;rintro _ w3 ⟨⟨ht,hv',hc'⟩,rfl,HX,hb3⟩;dsimp only [Hard10.arr] at *;have hbx3:=box_below hbx2 hb3;have hth3:=there_box hbx3 14 3 (by decide);have hl3:=box_lt hbx3)
    clear kr
    have hbx4:=setCells_box hbx3 14 [.int .i64 ht,.int .i64 hv',.int .i64 hc'] #[.int .i64 2,.int .i64 0,.int .i64 0,.int .i64 0,.int .i64 0,.int .i64 0,.int .i64 0,.string ⟨#[]⟩,.string ⟨#[]⟩,.string ⟨#[]⟩,.string ⟨#[]⟩,.int .i64 0,.slice none 0 0,.slice none 0 0,.int .i64 ht,.int .i64 hv',.int .i64 hc',.int .i64 0,.int .i64 0] (Nat.le_of_ble_eq_true rfl) rfl
    have hb4:Below w.heap.size w (w3.setCells (w.heap.size + 1) 14 [.int .i64 ht,.int .i64 hv',.int .i64 hc']):=setCells_below (by omega) _ _ (hb2.trans (hb3.mono hb2.size))
    have hres4:(w3.setCells (w.heap.size + 1) 14 [.int .i64 ht,.int .i64 hv',.int .i64 hc']).heap[w.heap.size]? = _:=grown_box (setCells_grown _ _ _ _) (box_below hres2 hb3) (by omega)
    have hg4:=setCells_grown (w.heap.size + 1) [.int .i64 ht,.int .i64 hv',.int .i64 hc'] 14 w3
    have HH3:FitsH ⟨ht,hv',hc'⟩:=hFH HX
    generalize w3.setCells (w.heap.size + 1) 14 [.int .i64 ht,.int .i64 hv',.int .i64 hc'] = W4 at *
    clear hbx3 hth3 hl3 hg4 hb3 hbx2 hres2 hb2
    have hld4:=ldR_box W4 _ _ _ _ hbx4 rfl
    clear hbx4
    rcases HA2.out with hA | hA
    · have HF:Hid (R = (⟨2,noE10,A.1,0,0⟩,true)):=by rw [Hid,HRk.out,if_pos hA]
      rw [hA]
      clear HRk HA2 hA
      have hthr:=there_box hres4 0 19 (Nat.le_refl _)
      have hF:=setCells_box hres4 0 [.int .i64 2,.int .i64 0,.int .i64 0,.int .i64 0,.int .i64 0,.int .i64 0,.int .i64 0,.string ⟨#[]⟩,.string ⟨#[]⟩,.string ⟨#[]⟩,.string ⟨#[]⟩,.int .i64 0,.slice none 0 0,.slice none 0 0,.int .i64 ht,.int .i64 hv',.int .i64 hc',.int .i64 0,.int .i64 0] #[.int .i64 2,.int .i64 0,.int .i64 0,.int .i64 0,.int .i64 0,.int .i64 0,.int .i64 0,.string ⟨#[]⟩,.string ⟨#[]⟩,.string ⟨#[]⟩,.string ⟨#[]⟩,.int .i64 0,.slice none 0 0,.slice none 0 0,.int .i64 ht,.int .i64 hv',.int .i64 hc',.int .i64 0,.int .i64 0] (Nat.le_refl _) rfl
      have hB9:=setCells_below (Nat.le_refl _) [.int .i64 2,.int .i64 0,.int .i64 0,.int .i64 0,.int .i64 0,.int .i64 0,.int .i64 0,.string ⟨#[]⟩,.string ⟨#[]⟩,.string ⟨#[]⟩,.string ⟨#[]⟩,.int .i64 0,.slice none 0 0,.slice none 0 0,.int .i64 ht,.int .i64 hv',.int .i64 hc',.int .i64 0,.int .i64 0] 0 hb4
      have hO9:OwnsR (W4.setCells w.heap.size 0 [.int .i64 2,.int .i64 0,.int .i64 0,.int .i64 0,.int .i64 0,.int .i64 0,.int .i64 0,.string ⟨#[]⟩,.string ⟨#[]⟩,.string ⟨#[]⟩,.string ⟨#[]⟩,.int .i64 0,.slice none 0 0,.slice none 0 0,.int .i64 ht,.int .i64 hv',.int .i64 hc',.int .i64 0,.int .i64 0]) w.heap.size ⟨2,noEV,⟨ht,hv',hc'⟩,0,0⟩:=⟨in2,OwnsE.nil _ _,HH3,in0,in0⟩
      go_wp2
      refine bodyPost_ret (ret_cell9 rfl _ _ w.heap.size _ _ _ _ rfl hF Tryz.underlying44 rfl (by kernel_rfl)) rfl ⟨⟨2,noEV,⟨ht,hv',hc'⟩,0,0⟩,?_,?_,hO9,hB9⟩
      · rw [HF.out];rfl
      · rw [HF.out];show (⟨2,noE10,_,0,0⟩:Rec11) = _;rw [← HX]
    · have HF:Hid (R = (noR11,false)):=by rw [Hid,HRk.out,if_neg (by omega)]
      rw [hA]
      clear HRk HA2 hA
      have hthr:=there_box hres4 0 19 (Nat.le_refl _)
      have hF:=setCells_box hres4 0 [.int .i64 0,.int .i64 0,.int .i64 0,.int .i64 0,.int .i64 0,.int .i64 0,.int .i64 0,.string ⟨#[]⟩,.string ⟨#[]⟩,.string ⟨#[]⟩,.string ⟨#[]⟩,.int .i64 0,.slice none 0 0,.slice none 0 0,.int .i64 0,.int .i64 0,.int .i64 0,.int .i64 0,.int .i64 0] #[.int .i64 0,.int .i64 0,.int .i64 0,.int .i64 0,.int .i64 0,.int .i64 0,.int .i64 0,.string ⟨#[]⟩,.string ⟨#[]⟩,.string ⟨#[]⟩,.string ⟨#[]⟩,.int .i64 0,.slice none 0 0,.slice none 0 0,.int .i64 0,.int .i64 0,.int .i64 0,.int .i64 0,.int .i64 0] (Nat.le_refl _) rfl
      have hB9:=setCells_below (Nat.le_refl _) [.int .i64 0,.int .i64 0,.int .i64 0,.int .i64 0,.int .i64 0,.int .i64 0,.int .i64 0,.string ⟨#[]⟩,.string ⟨#[]⟩,.string ⟨#[]⟩,.string ⟨#[]⟩,.int .i64 0,.slice none 0 0,.slice none 0 0,.int .i64 0,.int .i64 0,.int .i64 0,.int .i64 0,.int .i64 0] 0 hb4
      have hO9:OwnsR (W4.setCells w.heap.size 0 [.int .i64 0,.int .i64 0,.int .i64 0,.int .i64 0,.int .i64 0,.int .i64 0,.int .i64 0,.string ⟨#[]⟩,.string ⟨#[]⟩,.string ⟨#[]⟩,.string ⟨#[]⟩,.int .i64 0,.slice none 0 0,.slice none 0 0,.int .i64 0,.int .i64 0,.int .i64 0,.int .i64 0,.int .i64 0]) w.heap.size noRV:=OwnsR.nil _ _
      go_wp2
      refine bodyPost_ret (ret_cell9 rfl _ _ w.heap.size _ _ _ _ rfl hF Tryz.underlying44 rfl (by kernel_rfl)) rfl ⟨noRV,?_,?_,hO9,hB9⟩
      · rw [HF.out];rfl
      · rw [HF.out];rfl
  by_cases k3:K = 3
  · have HRk:Hid (R = if ((int9 (int9 (ys,false)).2).2.1.isEmpty && !(int9 (int9 (ys,false)).2).2.2) && (decide (0≤(int9 (ys,false)).1) && decide (0≤(int9 (int9 (ys,false)).2).1)) then (⟨3,noE10,noH11,(int9 (ys,false)).1,(int9 (int9 (ys,false)).2).1⟩,true) else (noR11,false)):=by
      rw [Hid,HR2.out]
      unfold readK11
      rw [if_neg k1,if_neg k2,if_pos k3]
    obtain ⟨pc,cc,rfl,-⟩:=id hcut0
    have hR:=Rdr.make hb2 hcut0 hBd hld 166
    have hi1:=int9_in (ys,false)
    have hi2:=int9_in (int9 (ys,false)).2
    have hz3:(W2.alloc (.cells #[.slice pc ys.length cc,.bool false] 166)).heap.size = W2.heap.size + 1:=by simp
    have ha3:Below W2.heap.size W2 (W2.alloc (.cells #[.slice pc ys.length cc,.bool false] 166)):=(Below.refl _ _).alloc (Nat.le_refl _) _
    have hbx3:=box_below hbx2 ha3
    have hres3:=box_below hres2 ha3
    have hb3:=hb2.trans (ha3.mono hb2.size)
    subst k3
    clear HR2 hcut hcut0 hBd hld hbx2 hres2 ha3
    go_upto_region 15 with fail
    generalize W2.alloc (.cells #[.slice pc ys.length cc,.bool false] 166) = W3 at *
    have r1:=hR.rint
    clear hR
    generalize int9 (ys,false) = A1 at *
    obtain ⟨ri,S1⟩:=A1
    dsimp only at r1 HRk hi1 hi2
    go_upto_region 16 with (go_at_call 101;refine r1.mono ?_;rintro _ w4 ⟨rfl,hl4⟩;have hbx4:=grown_box hl4.2 hbx3 (by omega);have z17:w4.cell? ⟨w.heap.size + 1,17,none⟩ = some (.int .i64 0):=box_cell hbx4 17;have fz:=frozen9 hbx4;have hl4':=box_lt hbx4)
    have hres4:=grown_box hl4.2 hres3 (by omega)
    have hR4:=hl4.1.cell (b:=w.heap.size + 1) (by omega) (by omega) 17 (.int .i64 ri)
    have hbx5:(w4.setCell ⟨w.heap.size + 1,17,none⟩ (.int .i64 ri)).heap[w.heap.size + 1]? = some (.cells #[.int .i64 3,.int .i64 0,.int .i64 0,.int .i64 0,.int .i64 0,.int .i64 0,.int .i64 0,.string ⟨#[]⟩,.string ⟨#[]⟩,.string ⟨#[]⟩,.string ⟨#[]⟩,.int .i64 0,.slice none 0 0,.slice none 0 0,.int .i64 0,.int .i64 0,.int .i64 0,.int .i64 ri,.int .i64 0] 44 (0,0)):=set_block9 hbx4 17 _ (by decide)
    have hres5:(w4.setCell ⟨w.heap.size + 1,17,none⟩ (.int .i64 ri)).heap[w.heap.size]? = _:=grown_box (grown_set w4 (w.heap.size + 1) 17 (.int .i64 ri)) hres4 (by omega)
    have hb5:=hR4.bel
    clear hbx3 hres3 hbx4 hres4 z17 fz hl4' r1 hl4 hb3
    generalize w4.setCell ⟨w.heap.size + 1,17,none⟩ (.int .i64 ri) = W5 at *
    have r2:=hR4.rint
    have hlt5:=hR4.lt
    clear hR4
    generalize int9 S1 = A2 at *
    obtain ⟨rt,S2⟩:=A2
    dsimp only at r2 HRk hi2
    go_upto_region 17 with (go_at_call 101;refine r2.mono ?_;rintro _ w6 ⟨rfl,hl6⟩;have hbx6:=grown_box hl6.2 hbx5 (by omega);have z18:w6.cell? ⟨w.heap.size + 1,18,none⟩ = some (.int .i64 0):=box_cell hbx6 18;have fz6:=frozen9 hbx6;have hl6':=box_lt hbx6)
    have hres6:=grown_box hl6.2 hres5 (by omega)
    have hR6:=hl6.1.cell (b:=w.heap.size + 1) (by omega) (by omega) 18 (.int .i64 rt)
    have hbx7:(w6.setCell ⟨w.heap.size + 1,18,none⟩ (.int .i64 rt)).heap[w.heap.size + 1]? = some (.cells #[.int .i64 3,.int .i64 0,.int .i64 0,.int .i64 0,.int .i64 0,.int .i64 0,.int .i64 0,.string ⟨#[]⟩,.string ⟨#[]⟩,.string ⟨#[]⟩,.string ⟨#[]⟩,.int .i64 0,.slice none 0 0,.slice none 0 0,.int .i64 0,.int .i64 0,.int .i64 0,.int .i64 ri,.int .i64 rt] 44 (0,0)):=set_block9 hbx6 18 _ (by show 18 < 19;omega)
    have hres7:(w6.setCell ⟨w.heap.size + 1,18,none⟩ (.int .i64 rt)).heap[w.heap.size]? = _:=grown_box (grown_set w6 (w.heap.size + 1) 18 (.int .i64 rt)) hres6 (by omega)
    have hb7:=hR6.bel
    clear hbx5 hres5 hbx6 hres6 z18 fz6 hl6' r2 hl6 hb5
    generalize w6.setCell ⟨w.heap.size + 1,18,none⟩ (.int .i64 rt) = W7 at *
    have r3:=hR6.rfin
    clear hR6
    have y17:W7.cell? ⟨w.heap.size + 1,17,none⟩ = some (.int .i64 ri):=box_cell hbx7 17
    have y18:W7.cell? ⟨w.heap.size + 1,18,none⟩ = some (.int .i64 rt):=box_cell hbx7 18
    have hl7:=box_lt hbx7
    have hld7:=ldR_box W7 _ _ _ _ hbx7 rfl
    have hO7:Hid (∀ W,OwnsR W w.heap.size ⟨3,noEV,⟨0,0,0⟩,ri,rt⟩):=fun W=>⟨in3,OwnsE.nil _ _,⟨in0,in0,in0⟩,hi1,hi2⟩
    clear hbx7 hi1 hi2
    cases he:(S2.1.isEmpty && !S2.2) with
    | false =>
      have HF:Hid (R = (noR11,false)):=by rw [Hid,HRk.out,he,Bool.false_and,if_neg (by decide)]
      rw [he] at r3
      clear HRk he
      go_upto_region 19 with (go_at_call 102;refine same_mono r3 ?_)
      clear r3 y17 y18 hld7
      have hthr:=there_box hres7 0 19 (Nat.le_refl _)
      have hF:=setCells_box hres7 0 [.int .i64 0,.int .i64 0,.int .i64 0,.int .i64 0,.int .i64 0,.int .i64 0,.int .i64 0,.string ⟨#[]⟩,.string ⟨#[]⟩,.string ⟨#[]⟩,.string ⟨#[]⟩,.int .i64 0,.slice none 0 0,.slice none 0 0,.int .i64 0,.int .i64 0,.int .i64 0,.int .i64 0,.int .i64 0] #[.int .i64 0,.int .i64 0,.int .i64 0,.int .i64 0,.int .i64 0,.int .i64 0,.int .i64 0,.string ⟨#[]⟩,.string ⟨#[]⟩,.string ⟨#[]⟩,.string ⟨#[]⟩,.int .i64 0,.slice none 0 0,.slice none 0 0,.int .i64 0,.int .i64 0,.int .i64 0,.int .i64 0,.int .i64 0] (Nat.le_refl _) rfl
      have hB9:=setCells_below (Nat.le_refl _) [.int .i64 0,.int .i64 0,.int .i64 0,.int .i64 0,.int .i64 0,.int .i64 0,.int .i64 0,.string ⟨#[]⟩,.string ⟨#[]⟩,.string ⟨#[]⟩,.string ⟨#[]⟩,.int .i64 0,.slice none 0 0,.slice none 0 0,.int .i64 0,.int .i64 0,.int .i64 0,.int .i64 0,.int .i64 0] 0 hb7
      have hO9:OwnsR (W7.setCells w.heap.size 0 [.int .i64 0,.int .i64 0,.int .i64 0,.int .i64 0,.int .i64 0,.int .i64 0,.int .i64 0,.string ⟨#[]⟩,.string ⟨#[]⟩,.string ⟨#[]⟩,.string ⟨#[]⟩,.int .i64 0,.slice none 0 0,.slice none 0 0,.int .i64 0,.int .i64 0,.int .i64 0,.int .i64 0,.int .i64 0]) w.heap.size noRV:=OwnsR.nil _ _
      go_wp2
      refine bodyPost_ret (ret_cell9 rfl _ _ w.heap.size _ _ _ _ rfl hF Tryz.underlying44 rfl (by kernel_rfl)) rfl ⟨noRV,?_,?_,hO9,hB9⟩
      · rw [HF.out];rfl
      · rw [HF.out];rfl
    | true =>
      rw [he] at r3
      rw [he,Bool.true_and] at HRk
      clear he
      by_cases c1:0≤ri
      case neg =>
        have HF:Hid (R = (noR11,false)):=by rw [Hid,HRk.out,decide_eq_false c1,Bool.false_and,if_neg (by decide)]
        clear HRk
        go_upto_region 19 with (go_at_call 102;refine same_mono r3 ?_)
        clear r3 y17 y18 hld7
        have hthr:=there_box hres7 0 19 (Nat.le_refl _)
        have hF:=setCells_box hres7 0 [.int .i64 0,.int .i64 0,.int .i64 0,.int .i64 0,.int .i64 0,.int .i64 0,.int .i64 0,.string ⟨#[]⟩,.string ⟨#[]⟩,.string ⟨#[]⟩,.string ⟨#[]⟩,.int .i64 0,.slice none 0 0,.slice none 0 0,.int .i64 0,.int .i64 0,.int .i64 0,.int .i64 0,.int .i64 0] #[.int .i64 0,.int .i64 0,.int .i64 0,.int .i64 0,.int .i64 0,.int .i64 0,.int .i64 0,.string ⟨#[]⟩,.string ⟨#[]⟩,.string ⟨#[]⟩,.string ⟨#[]⟩,.int .i64 0,.slice none 0 0,.slice none 0 0,.int .i64 0,.int .i64 0,.int .i64 0,.int .i64 0,.int .i64 0] (Nat.le_refl _) rfl
        have hB9:=setCells_below (Nat.le_refl _) [.int .i64 0,.int .i64 0,.int .i64 0,.int .i64 0,.int .i64 0,.int .i64 0,.int .i64 0,.string ⟨#[]⟩,.string ⟨#[]⟩,.string ⟨#[]⟩,.string ⟨#[]⟩,.int .i64 0,.slice none 0 0,.slice none 0 0,.int .i64 0,.int .i64 0,.int .i64 0,.int .i64 0,.int .i64 0] 0 hb7
        have hO9:OwnsR (W7.setCells w.heap.size 0 [.int .i64 0,.int .i64 0,.int .i64 0,.int .i64 0,.int .i64 0,.int .i64 0,.int .i64 0,.string ⟨#[]⟩,.string ⟨#[]⟩,.string ⟨#[]⟩,.string ⟨#[]⟩,.int .i64 0,.slice none 0 0,.slice none 0 0,.int .i64 0,.int .i64 0,.int .i64 0,.int .i64 0,.int .i64 0]) w.heap.size noRV:=OwnsR.nil _ _
        go_wp2
        refine bodyPost_ret (ret_cell9 rfl _ _ w.heap.size _ _ _ _ rfl hF Tryz.underlying44 rfl (by kernel_rfl)) rfl ⟨noRV,?_,?_,hO9,hB9⟩
        · rw [HF.out];rfl
        · rw [HF.out];rfl
      rw [decide_eq_true c1,Bool.true_and] at HRk
      by_cases c2:0≤rt
      case neg =>
        have HF:Hid (R = (noR11,false)):=by rw [Hid,HRk.out,decide_eq_false c2,if_neg (by decide)]
        clear HRk
        go_upto_region 19 with (go_at_call 102;refine same_mono r3 ?_)
        clear r3 y17 y18 hld7
        have hthr:=there_box hres7 0 19 (Nat.le_refl _)
        have hF:=setCells_box hres7 0 [.int .i64 0,.int .i64 0,.int .i64 0,.int .i64 0,.int .i64 0,.int .i64 0,.int .i64 0,.string ⟨#[]⟩,.string ⟨#[]⟩,.string ⟨#[]⟩,.string ⟨#[]⟩,.int .i64 0,.slice none 0 0,.slice none 0 0,.int .i64 0,.int .i64 0,.int .i64 0,.int .i64 0,.int .i64 0] #[.int .i64 0,.int .i64 0,.int .i64 0,.int .i64 0,.int .i64 0,.int .i64 0,.int .i64 0,.string ⟨#[]⟩,.string ⟨#[]⟩,.string ⟨#[]⟩,.string ⟨#[]⟩,.int .i64 0,.slice none 0 0,.slice none 0 0,.int .i64 0,.int .i64 0,.int .i64 0,.int .i64 0,.int .i64 0] (Nat.le_refl _) rfl
        have hB9:=setCells_below (Nat.le_refl _) [.int .i64 0,.int .i64 0,.int .i64 0,.int .i64 0,.int .i64 0,.int .i64 0,.int .i64 0,.string ⟨#[]⟩,.string ⟨#[]⟩,.string ⟨#[]⟩,.string ⟨#[]⟩,.int .i64 0,.slice none 0 0,.slice none 0 0,.int .i64 0,.int .i64 0,.int .i64 0,.int .i64 0,.int .i64 0] 0 hb7
        have hO9:OwnsR (W7.setCells w.heap.size 0 [.int .i64 0,.int .i64 0,.int .i64 0,.int .i64 0,.int .i64 0,.int .i64 0,.int .i64 0,.string ⟨#[]⟩,.string ⟨#[]⟩,.string ⟨#[]⟩,.string ⟨#[]⟩,.int .i64 0,.slice none 0 0,.slice none 0 0,.int .i64 0,.int .i64 0,.int .i64 0,.int .i64 0,.int .i64 0]) w.heap.size noRV:=OwnsR.nil _ _
        go_wp2
        refine bodyPost_ret (ret_cell9 rfl _ _ w.heap.size _ _ _ _ rfl hF Tryz.underlying44 rfl (by kernel_rfl)) rfl ⟨noRV,?_,?_,hO9,hB9⟩
        · rw [HF.out];rfl
        · rw [HF.out];rfl
      have HF:Hid (R = (⟨3,noE10,noH11,ri,rt⟩,true)):=by rw [Hid,HRk.out,decide_eq_true c2,if_pos rfl]
      clear HRk
      go_upto_region 19 with (go_at_call 102;refine same_mono r3 ?_)
      clear r3 y17 y18
      have hthr:=there_box hres7 0 19 (Nat.le_refl _)
      have hF:=setCells_box hres7 0 [.int .i64 3,.int .i64 0,.int .i64 0,.int .i64 0,.int .i64 0,.int .i64 0,.int .i64 0,.string ⟨#[]⟩,.string ⟨#[]⟩,.string ⟨#[]⟩,.string ⟨#[]⟩,.int .i64 0,.slice none 0 0,.slice none 0 0,.int .i64 0,.int .i64 0,.int .i64 0,.int .i64 ri,.int .i64 rt] #[.int .i64 3,.int .i64 0,.int .i64 0,.int .i64 0,.int .i64 0,.int .i64 0,.int .i64 0,.string ⟨#[]⟩,.string ⟨#[]⟩,.string ⟨#[]⟩,.string ⟨#[]⟩,.int .i64 0,.slice none 0 0,.slice none 0 0,.int .i64 0,.int .i64 0,.int .i64 0,.int .i64 ri,.int .i64 rt] (Nat.le_refl _) rfl
      have hB9:=setCells_below (Nat.le_refl _) [.int .i64 3,.int .i64 0,.int .i64 0,.int .i64 0,.int .i64 0,.int .i64 0,.int .i64 0,.string ⟨#[]⟩,.string ⟨#[]⟩,.string ⟨#[]⟩,.string ⟨#[]⟩,.int .i64 0,.slice none 0 0,.slice none 0 0,.int .i64 0,.int .i64 0,.int .i64 0,.int .i64 ri,.int .i64 rt] 0 hb7
      have hO9:OwnsR (W7.setCells w.heap.size 0 [.int .i64 3,.int .i64 0,.int .i64 0,.int .i64 0,.int .i64 0,.int .i64 0,.int .i64 0,.string ⟨#[]⟩,.string ⟨#[]⟩,.string ⟨#[]⟩,.string ⟨#[]⟩,.int .i64 0,.slice none 0 0,.slice none 0 0,.int .i64 0,.int .i64 0,.int .i64 0,.int .i64 ri,.int .i64 rt]) w.heap.size ⟨3,noEV,⟨0,0,0⟩,ri,rt⟩:=hO7.out _
      go_wp2
      refine bodyPost_ret (ret_cell9 rfl _ _ w.heap.size _ _ _ _ rfl hF Tryz.underlying44 rfl (by kernel_rfl)) rfl ⟨⟨3,noEV,⟨0,0,0⟩,ri,rt⟩,?_,?_,hO9,hB9⟩
      · rw [HF.out];rfl
      · rw [HF.out];rfl
  have HF:Hid (R = (noR11,false)):=by
    rw [Hid,HR2.out]
    unfold readK11
    rw [if_neg k1,if_neg k2,if_neg k3]
  have k1':(K == 1) = false:=by simpa using k1
  have k2':(K == 2) = false:=by simpa using k2
  have k3':(K == 3) = false:=by simpa using k3
  clear HR2 hcut hcut0 hBd hld hbx2
  have hthr:=there_box hres2 0 19 (Nat.le_refl _)
  have hF:=setCells_box hres2 0 [.int .i64 0,.int .i64 0,.int .i64 0,.int .i64 0,.int .i64 0,.int .i64 0,.int .i64 0,.string ⟨#[]⟩,.string ⟨#[]⟩,.string ⟨#[]⟩,.string ⟨#[]⟩,.int .i64 0,.slice none 0 0,.slice none 0 0,.int .i64 0,.int .i64 0,.int .i64 0,.int .i64 0,.int .i64 0] #[.int .i64 0,.int .i64 0,.int .i64 0,.int .i64 0,.int .i64 0,.int .i64 0,.int .i64 0,.string ⟨#[]⟩,.string ⟨#[]⟩,.string ⟨#[]⟩,.string ⟨#[]⟩,.int .i64 0,.slice none 0 0,.slice none 0 0,.int .i64 0,.int .i64 0,.int .i64 0,.int .i64 0,.int .i64 0] (Nat.le_refl _) rfl
  have hB9:=setCells_below (Nat.le_refl _) [.int .i64 0,.int .i64 0,.int .i64 0,.int .i64 0,.int .i64 0,.int .i64 0,.int .i64 0,.string ⟨#[]⟩,.string ⟨#[]⟩,.string ⟨#[]⟩,.string ⟨#[]⟩,.int .i64 0,.slice none 0 0,.slice none 0 0,.int .i64 0,.int .i64 0,.int .i64 0,.int .i64 0,.int .i64 0] 0 hb2
  have hO9:OwnsR (W2.setCells w.heap.size 0 [.int .i64 0,.int .i64 0,.int .i64 0,.int .i64 0,.int .i64 0,.int .i64 0,.int .i64 0,.string ⟨#[]⟩,.string ⟨#[]⟩,.string ⟨#[]⟩,.string ⟨#[]⟩,.int .i64 0,.slice none 0 0,.slice none 0 0,.int .i64 0,.int .i64 0,.int .i64 0,.int .i64 0,.int .i64 0]) w.heap.size noRV:=OwnsR.nil _ _
  go_wp2
  refine bodyPost_ret (ret_cell9 rfl _ _ w.heap.size _ _ _ _ rfl hF Tryz.underlying44 rfl (by kernel_rfl)) rfl ⟨noRV,?_,?_,hO9,hB9⟩
  · rw [HF.out];rfl
  · rw [HF.out];rfl
theorem unframe_isB {xs:List Int} (h:IsB xs):IsB (unframeS xs).1:=by
  unfold unframeS
  repeat' split
  all_goals first | exact IsB.nil | exact IsB.cutB h _ _
def recsV (l:List RecV):List Value:=(l.map fun x=>x.arr.toList).flatten
theorem recsV_app (l m:List RecV):recsV (l++m) = recsV l++recsV m:=by simp [recsV]
theorem recsV_one (x:RecV):recsV [x] = x.arr.toList:=by simp [recsV]
theorem rarr_len (x:RecV):x.arr.toList.length = 19:=rfl
theorem recsV_at:∀ {l:List RecV} {i k:Nat},i < l.length→k < 19→(recsV l)[i * 19 + k]? = (l.getD i noRV).arr[k]?
  | [],_,_,h,_=>by cases h
  | x :: l,0,k,_,hk=>by
    have:recsV (x :: l) = x.arr.toList++recsV l:=by simp [recsV]
    rw [this,List.getElem?_append_left (by rw [rarr_len];omega),List.getD_cons_zero,Nat.zero_mul,Nat.zero_add,Array.getElem?_toList]
  | x :: l,i + 1,k,h,hk=>by
    have:recsV (x :: l) = x.arr.toList++recsV l:=by simp [recsV]
    rw [this,List.getElem?_append_right (by rw [rarr_len];omega),List.getD_cons_succ,rarr_len,show (i + 1) * 19 + k - 19 = i * 19 + k by omega]
    exact recsV_at (by simpa using h) hk
theorem rarr_cell (x:RecV):∀ u ∈ x.arr.toList,u.oneCell' = true:=by
  intro u hu
  simp only [RecV.arr,List.mem_cons,List.not_mem_nil,or_false] at hu
  rcases hu with rfl | rfl | rfl | rfl | rfl | rfl | rfl | rfl | rfl | rfl | rfl | rfl | rfl | rfl | rfl | rfl | rfl | rfl | rfl <;> rfl
theorem row_shape11 {w:World} {B:Nat} {e:TypeId} {s n:Nat} {v:Value} {xs:List Value} (h:w.ownsRow B e s v n xs):∃ p n c,v = .slice p n c:=by
  rcases h.2 with ⟨rfl,_⟩ | ⟨g,cap,cur,rfl,_⟩
  · exact ⟨_,_,_,rfl⟩
  · exact ⟨_,_,_,rfl⟩
structure RowR (T:TypeId) (w:World) (B:Nat) (u:Value) (l:List RecV):Prop where
  row:w.ownsRow B T 19 u l.length (recsV l)
  all:∀ x ∈ l,OwnsR w B x
theorem RowR.nil (T:TypeId) (w:World) (B:Nat):RowR T w B (.slice none 0 0) []:=⟨World.ownsRow_nil w B _ 19,fun _ h=>by cases h⟩
theorem RowR.below {T:TypeId} {w w':World} {B:Nat} {u:Value} {l:List RecV} (h:RowR T w B u l) (hb:Below w.heap.size w w'):RowR T w' B u l:=⟨row_below h.row hb (Nat.le_refl _),fun x hx=>(h.all x hx).below hb⟩
theorem OwnsE.appT {w w':World} {B B' T:Nat} {x:EntV} {u:Value} {s n:Nat} {xs:List Value} (h:OwnsE w B x) (hu:w.ownsRow B' T s u n xs) (hne:3 ≠ T) (hg:w.grownBy w' u.ownBlock):OwnsE w' B x :=
  ⟨h.i,h.t,h.k,h.c,⟨World.ownsRow.kept h.f.u hg (rows_apart h.f.u hu hne),World.ownsRow.kept h.f.v hg (rows_apart h.f.v hu hne),h.f.iu,h.f.iv,h.f.lu,h.f.lv⟩⟩
theorem OwnsR.appT {w w':World} {B B' T:Nat} {x:RecV} {u:Value} {s n:Nat} {xs:List Value} (h:OwnsR w B x) (hu:w.ownsRow B' T s u n xs) (hne:3 ≠ T) (hg:w.grownBy w' u.ownBlock):OwnsR w' B x:=⟨h.k,h.e.appT hu hne hg,h.h,h.i,h.t⟩
theorem RowR.push {T:TypeId} {w:World} {B:Nat} {u:Value} {l:List RecV} {x:RecV} (h:RowR T w B u l) (hx:OwnsR w B x) (hne:3 ≠ T) (hB:B≤w.heap.size) :
    (w.alloc (.cells x.arr T)).ownsRow B T 19 u l.length (recsV l)∧HasR (w.alloc (.cells x.arr T)) 19 (.slice (some ⟨w.heap.size,0,none⟩) 1 1) 1 x.arr.toList ∧
    ∀ w5 v5,w5.ownsRow B T 19 v5 (l.length + 1) (recsV l++x.arr.toList)→(w.alloc (.cells x.arr T)).grownBy w5 u.ownBlock→RowR T w5 B v5 (l++[x])∧Below B w w5:=by
  have hA:Below w.heap.size w (w.alloc (.cells x.arr T)):=(Below.refl _ _).alloc (Nat.le_refl _) _
  have h1:=World.ownsRow.alloc h.row (.cells x.arr T)
  refine ⟨h1,⟨_,_,rfl,Nat.le_refl _,(fun h=>by cases h),rfl,fun _=>⟨_,_,rfl,by simp,fun j v hj=>?_⟩⟩,fun w5 v5 ho hg=>⟨⟨?_,fun y hy=>?_⟩,?_⟩⟩
  · rw [Nat.zero_add,box_cell (heap_alloc_new w (.cells x.arr T)) j,← Array.getElem?_toList]
    exact hj
  · rw [recsV_app,recsV_one,List.length_append,List.length_singleton]
    exact ho
  · rcases List.mem_append.1 hy with hy | hy
    · exact ((h.all y hy).below hA).appT h1 hne hg
    · rw [List.mem_singleton.1 hy]
      exact (hx.below hA).appT h1 hne hg
  · exact ((Below.refl B w).alloc hB _).grown hg (by simp;omega) fun k hk=>(World.ownsRow.lt h.row k hk).1
theorem elemR11:Elem8 Tryz.prog 41 44 19 216:=elem8 Tryz.underlying41 (z:=.agg noRV.arr) (by kernel_rfl) rfl (by decide)
set_option maxRecDepth 100000 in
set_option maxHeartbeats 4000000 in
theorem rscan11_any (v:Value) (xs:List Int) (w:World) (hv:Has w v xs) (hB:IsB xs) (hl:xs.length≤1073741824) :
    Calls Tryz.prog 11 #[v] w fun e w'=>∃ (p:Option Addr) (n c:Nat) (l:List RecV),e = .returned (.tuple #[.slice p n c,.int .i64 ((scan11 xs).2:Nat)])∧RowR 44 w' w.heap.size (.slice p n c) l∧l.map RecV.r = (scan11 xs).1∧Below w.heap.size w w':=by
  obtain ⟨p,c,rfl,hc,-,-⟩:=id hv
  have HS:Hid (scan11 xs = ([]++(scan11 (xs.drop 0)).1,0 + (scan11 (xs.drop 0)).2)):=by rw [Hid,List.drop_zero,List.nil_append,Nat.zero_add]
  generalize scan11 xs = R at *
  have HV:Hid (Has w (.slice p xs.length c) xs):=hv
  have HB:Hid (IsB xs):=hB
  clear hv hB
  go_enter Tryz.func11,Tryz.ntmps11
  go_wp2
  go_loopw [4,5] (fun s4 s5 wr=>∃ (k:Nat) (u:Value) (l:List RecV),u = s4∧s5 = .int .i64 (k:Nat)∧k≤xs.length∧l.length≤k∧RowR 44 wr w.heap.size u l∧Hid (R = (l.map RecV.r++(scan11 (xs.drop k)).1,k + (scan11 (xs.drop k)).2))∧Below w.heap.size w wr) (fun _ s5 _=>xs.length - (intOf s5).toNat)
  case atStart=>exact ⟨0,_,[],rfl,rfl,Nat.zero_le _,Nat.le_refl _,RowR.nil _ _ _,HS.out,Below.refl _ _⟩
  case round =>
    obtain ⟨k,u,l,hu,rfl,hk,hlk,hrow,HR,hb⟩:=hrel
    subst hu
    have hlen:(xs.drop k).length = xs.length - k:=List.length_drop
    have hcut:=(HV.out.below hb (Nat.le_refl _)).cutV k hk
    have ku:=runframe_any _ _ wr hcut (by omega) (fun z hz=>HB.out z (List.mem_of_mem_drop hz))
    have hul:=@unframe_len (xs.drop k)
    have hiu:=unframe_isB (xs:=xs.drop k) (fun z hz=>HB.out z (List.mem_of_mem_drop hz))
    have H1:Hid (¬ ((unframeS (xs.drop k)).2.2 = 0∧(readR11 (unframeS (xs.drop k)).1).2 = true)→scan11 (xs.drop k) = ([],0)):=scan_none
    have H2:Hid ((unframeS (xs.drop k)).2.2 = 0∧(readR11 (unframeS (xs.drop k)).1).2 = true→scan11 (xs.drop k) = ((readR11 (unframeS (xs.drop k)).1).1 :: (scan11 ((xs.drop k).drop (unframeS (xs.drop k)).2.1.toNat)).1,(unframeS (xs.drop k)).2.1.toNat + (scan11 ((xs.drop k).drop (unframeS (xs.drop k)).2.1.toNat)).2)):=scan_cons
    clear HS hcut
    rw [List.drop_drop] at H2
    generalize unframeS (xs.drop k) = U at *
    obtain ⟨cx,cn,ce⟩:=U
    dsimp only at ku hul hiu H1 H2
    by_cases he:ce = 0
    case neg =>
      have he':(ce != 0) = true:=by simpa using he
      have HF:Hid (R = (l.map RecV.r,k)):=by rw [Hid,HR.out,H1.out (fun h=>he h.1),List.append_nil,Nat.add_zero]
      obtain ⟨p9,n9,c9,rfl⟩:=row_shape11 hrow.row
      clear H1 H2 HR hul hiu
      go_wp2_with (go_at_call 37;refine ku.mono ?_;rintro _ w1 ⟨v1,rfl,h1,hb1⟩)
      go_ret2
      exact ⟨_,_,_,l,by rw [HF.out];rfl,hrow.below hb1,by rw [HF.out],hb.trans (hb1.mono hb.size)⟩
    subst he
    obtain ⟨l1,l2,l3,l4⟩:=hul rfl
    obtain ⟨m,rfl⟩:∃ m:Nat,cn = (m:Int):=⟨cn.toNat,by omega⟩
    rw [Int.toNat_natCast] at l1 l2 l3 H2
    clear hul
    go_upto_region 6 with (go_at_call 37;refine ku.mono ?_;rintro _ w1 ⟨v1,rfl,h1,hb1⟩)
    have hb1':=hb.trans (hb1.mono hb.size)
    have hrow1:=hrow.below hb1
    have kr:=rread11_any v1 cx w1 h1 hiu (by omega)
    clear ku h1 hb1 hiu hb hrow
    generalize readR11 cx = Q at *
    obtain ⟨q,ok⟩:=Q
    dsimp only at kr H1 H2
    go_upto_region 7 with (go_at_call 38;refine kr.mono ?_;rintro _ w2 ⟨⟨x0,⟨xi,xt,xk,⟨ck,cs,cq,ckey,cold,cval,cunt,clim⟩,⟨⟨p1,n1,c1⟩,⟨q1,m1,d1⟩,f1⟩⟩,⟨ht,hv,hc'⟩,ri,rt⟩,rfl,HX,hO2,hb2⟩;dsimp only [RecV.arr] at *;have hbx:=heap_alloc_new w2 (.cells #[.int .i64 0,.int .i64 0,.int .i64 0,.int .i64 0,.int .i64 0,.int .i64 0,.int .i64 0,.string ⟨#[]⟩,.string ⟨#[]⟩,.string ⟨#[]⟩,.string ⟨#[]⟩,.int .i64 0,.slice none 0 0,.slice none 0 0,.int .i64 0,.int .i64 0,.int .i64 0,.int .i64 0,.int .i64 0] 44);have hth:=there_box hbx 0 19 (Nat.le_refl _))
    have hbx3:=setCells_box hbx 0 [.int .i64 x0,.int .i64 xi,.int .i64 xt,.int .i64 xk,.int .i64 ck,.int .i64 cs,.int .i64 cq,.string ckey,.string cold,.string cval,.string cunt,.int .i64 clim,.slice p1 n1 c1,.slice q1 m1 d1,.int .i64 ht,.int .i64 hv,.int .i64 hc',.int .i64 ri,.int .i64 rt] #[.int .i64 x0,.int .i64 xi,.int .i64 xt,.int .i64 xk,.int .i64 ck,.int .i64 cs,.int .i64 cq,.string ckey,.string cold,.string cval,.string cunt,.int .i64 clim,.slice p1 n1 c1,.slice q1 m1 d1,.int .i64 ht,.int .i64 hv,.int .i64 hc',.int .i64 ri,.int .i64 rt] (Nat.le_refl _) rfl
    have hb3:Below w2.heap.size w2 ((w2.alloc (.cells #[.int .i64 0,.int .i64 0,.int .i64 0,.int .i64 0,.int .i64 0,.int .i64 0,.int .i64 0,.string ⟨#[]⟩,.string ⟨#[]⟩,.string ⟨#[]⟩,.string ⟨#[]⟩,.int .i64 0,.slice none 0 0,.slice none 0 0,.int .i64 0,.int .i64 0,.int .i64 0,.int .i64 0,.int .i64 0] 44)).setCells w2.heap.size 0 [.int .i64 x0,.int .i64 xi,.int .i64 xt,.int .i64 xk,.int .i64 ck,.int .i64 cs,.int .i64 cq,.string ckey,.string cold,.string cval,.string cunt,.int .i64 clim,.slice p1 n1 c1,.slice q1 m1 d1,.int .i64 ht,.int .i64 hv,.int .i64 hc',.int .i64 ri,.int .i64 rt]):=setCells_below (Nat.le_refl _) _ _ ((Below.refl _ _).alloc (Nat.le_refl _) _)
    clear hbx hth kr
    generalize (w2.alloc (.cells #[.int .i64 0,.int .i64 0,.int .i64 0,.int .i64 0,.int .i64 0,.int .i64 0,.int .i64 0,.string ⟨#[]⟩,.string ⟨#[]⟩,.string ⟨#[]⟩,.string ⟨#[]⟩,.int .i64 0,.slice none 0 0,.slice none 0 0,.int .i64 0,.int .i64 0,.int .i64 0,.int .i64 0,.int .i64 0] 44)).setCells w2.heap.size 0 [.int .i64 x0,.int .i64 xi,.int .i64 xt,.int .i64 xk,.int .i64 ck,.int .i64 cs,.int .i64 cq,.string ckey,.string cold,.string cval,.string cunt,.int .i64 clim,.slice p1 n1 c1,.slice q1 m1 d1,.int .i64 ht,.int .i64 hv,.int .i64 hc',.int .i64 ri,.int .i64 rt] = W3 at *
    have hsz:=hb1'.size
    have hbW:=hb1'.trans ((hb2.trans (hb3.mono hb2.size)).mono hsz)
    have hrow3:=(hrow1.below hb2).below hb3
    have hO3:=(hO2.below hb3).mono hsz
    have hl3:=box_lt hbx3
    clear hb1' hrow1 hO2 hb2 hb3
    cases ok with
    | false =>
      have HF:Hid (R = (l.map RecV.r,k)):=by rw [Hid,HR.out,H1.out (fun h=>by cases h.2),List.append_nil,Nat.add_zero]
      obtain ⟨p9,n9,c9,rfl⟩:=row_shape11 hrow3.row
      clear H1 H2 HR
      go_wp2
      go_ret2
      exact ⟨_,_,_,l,by rw [HF.out];rfl,hrow3,by rw [HF.out],hbW⟩
    | true =>
      have HN:Hid (R = ((l++[(⟨x0,⟨xi,xt,xk,⟨ck,cs,cq,ckey,cold,cval,cunt,clim⟩,⟨⟨p1,n1,c1⟩,⟨q1,m1,d1⟩,f1⟩⟩,⟨ht,hv,hc'⟩,ri,rt⟩:RecV)]).map RecV.r++(scan11 (xs.drop (k + m))).1,k + m + (scan11 (xs.drop (k + m))).2)):=by
        rw [Hid,HR.out,H2.out (by first | exact ⟨rfl,rfl⟩ | exact ⟨trivial,rfl⟩ | simp),List.map_append,List.map_cons,List.map_nil,HX]
        simp [Nat.add_assoc]
      have hld3:=ldR_box W3 _ _ _ _ hbx3 rfl
      obtain ⟨hP1,hP2,hP3⟩:=hrow3.push hO3 (by decide) hbW.size
      have hone:=rarr_cell ⟨x0,⟨xi,xt,xk,⟨ck,cs,cq,ckey,cold,cval,cunt,clim⟩,⟨⟨p1,n1,c1⟩,⟨q1,m1,d1⟩,f1⟩⟩,⟨ht,hv,hc'⟩,ri,rt⟩
      have HP3:Hid _:=hP3
      clear H1 H2 HR HX hbx3 hP3 hrow3 hO3
      dsimp only [RecV.arr] at hP1 hP2 HP3 hone
      go_wp2_with (at_builtin;refine ap_row elemR11 _ rfl _ _ rfl w.heap.size u _ l.length 1 (recsV l) [.int .i64 x0,.int .i64 xi,.int .i64 xt,.int .i64 xk,.int .i64 ck,.int .i64 cs,.int .i64 cq,.string ckey,.string cold,.string cval,.string cunt,.int .i64 clim,.slice p1 n1 c1,.slice q1 m1 d1,.int .i64 ht,.int .i64 hv,.int .i64 hc',.int .i64 ri,.int .i64 rt] rfl rfl hP2 hone hP1 (by omega) (by omega) (by have:=hbW.size;simp;omega) ?_;intro v5 w5 ho5 hg5 _)
      obtain ⟨hE1,hE2⟩:=HP3.out w5 v5 ho5 hg5
      go_roundw
      case rel =>
        refine ⟨k + m,_,l++[(⟨x0,⟨xi,xt,xk,⟨ck,cs,cq,ckey,cold,cval,cunt,clim⟩,⟨⟨p1,n1,c1⟩,⟨q1,m1,d1⟩,f1⟩⟩,⟨ht,hv,hc'⟩,ri,rt⟩:RecV)],rfl,?_,?_,?_,hE1,HN,?_⟩
        · go_num
        · omega
        · rw [List.length_append,List.length_singleton];omega
        · exact hbW.trans hE2
      case measure=>simp only [intOf];omega
end Go.Proofs.YtkbbhllchombdaaGreatDoor

namespace Go.Proofs.YtkbbhllchombdaaGreatDoor
open Go.RowKit Go.Shelf
attribute [local go_sem ↓] ldE_exec stE_exec ldE_execI stE_execI ldE_run ldE_box stE_box ldC_exec stC_exec ldC_execI stC_execI ldC_run ldW_exec stW_exec ldW_execI stW_execI ldW_box stW_box ldR_exec stR_exec ldR_execI stR_execI ldR_box stR_box ldT_exec stT_exec ldT_execI stT_execI ldT_box ldU_exec stU_exec ldU_execI stU_execI ldH_exec stH_exec ldH_execI stH_execI ldH_run ldH_box stH_box oc_int oc_bool oc_string oc_slice oc_pointer
theorem min2_run (ts:Array TypeId) (t:TypeId) (x y:Int) (W:World):(Builtin.min_ ts t #[.int .i64 x,.int .i64 y]).run Tryz.prog W = .ok (.int .i64 (min x y)) W:=by
  simp [Builtin.min_,Builtin.min2,min_of]
set_option maxRecDepth 100000 in
set_option maxHeartbeats 2000000 in
theorem goodR_any (w:World) (x:RecV) (hF:FitsR w x):Calls Tryz.prog 43 #[.agg x.arr] w fun e w'=>e = .returned (.bool (goodR11 x.r))∧Below w.heap.size w w':=by
  have hb1:Below w.heap.size w (w.alloc (.cells x.arr 32)):=(Below.refl _ _).alloc (Nat.le_refl _) _
  have hbox:=heap_alloc_new w (.cells x.arr 32)
  have hlt:w.heap.size < (w.alloc (.cells x.arr 32)).heap.size:=by simp
  have k1:=goodE_any x.e _ (hF.e.below hb1)
  have P1:Hid (x.k = 1→goodR11 x.r = goodE10 x.e.e):=fun h=>if_pos h
  have P2:Hid (x.k = 2→goodR11 x.r = (decide (0≤x.h.t) && decide (0≤x.h.v) && decide (0≤x.h.c))):=fun h=>(if_neg (show ¬ x.k = 1 by omega)).trans (if_pos h)
  have P3:Hid (x.k = 3→goodR11 x.r = (decide (0≤x.i) && decide (0≤x.t))):=fun h=>(if_neg (show ¬ x.k = 1 by omega)).trans ((if_neg (show ¬ x.k = 2 by omega)).trans (if_pos h))
  have P4:Hid (x.k ≠ 1→x.k ≠ 2→x.k ≠ 3→goodR11 x.r = false):=fun h1 h2 h3=>(if_neg h1).trans ((if_neg h2).trans (if_neg h3))
  generalize goodR11 x.r = g at *
  generalize goodE10 x.e.e = ge at *
  clear hF
  obtain ⟨k,⟨xi,xt,xk,⟨ck,cs,cq,ckey,cold,cval,cunt,clim⟩,⟨⟨p1,n1,c1⟩,⟨q1,m1,d1⟩,f1⟩⟩,⟨ht,hv,hc⟩,ri,rt⟩:=x
  unfold RecV.arr at *
  unfold EntV.arr at *
  dsimp only at *
  have y0:(w.alloc (.cells #[.int .i64 k,.int .i64 xi,.int .i64 xt,.int .i64 xk,.int .i64 ck,.int .i64 cs,.int .i64 cq,.string ckey,.string cold,.string cval,.string cunt,.int .i64 clim,.slice p1 n1 c1,.slice q1 m1 d1,.int .i64 ht,.int .i64 hv,.int .i64 hc,.int .i64 ri,.int .i64 rt] 32)).cell? ⟨w.heap.size,0,none⟩ = some (.int .i64 k):=box_cell hbox 0
  have y1:(w.alloc (.cells #[.int .i64 k,.int .i64 xi,.int .i64 xt,.int .i64 xk,.int .i64 ck,.int .i64 cs,.int .i64 cq,.string ckey,.string cold,.string cval,.string cunt,.int .i64 clim,.slice p1 n1 c1,.slice q1 m1 d1,.int .i64 ht,.int .i64 hv,.int .i64 hc,.int .i64 ri,.int .i64 rt] 32)).cell? ⟨w.heap.size,1,none⟩ = some (.int .i64 xi):=box_cell hbox 1
  have y2:(w.alloc (.cells #[.int .i64 k,.int .i64 xi,.int .i64 xt,.int .i64 xk,.int .i64 ck,.int .i64 cs,.int .i64 cq,.string ckey,.string cold,.string cval,.string cunt,.int .i64 clim,.slice p1 n1 c1,.slice q1 m1 d1,.int .i64 ht,.int .i64 hv,.int .i64 hc,.int .i64 ri,.int .i64 rt] 32)).cell? ⟨w.heap.size,2,none⟩ = some (.int .i64 xt):=box_cell hbox 2
  have y3:(w.alloc (.cells #[.int .i64 k,.int .i64 xi,.int .i64 xt,.int .i64 xk,.int .i64 ck,.int .i64 cs,.int .i64 cq,.string ckey,.string cold,.string cval,.string cunt,.int .i64 clim,.slice p1 n1 c1,.slice q1 m1 d1,.int .i64 ht,.int .i64 hv,.int .i64 hc,.int .i64 ri,.int .i64 rt] 32)).cell? ⟨w.heap.size,3,none⟩ = some (.int .i64 xk):=box_cell hbox 3
  have y4:(w.alloc (.cells #[.int .i64 k,.int .i64 xi,.int .i64 xt,.int .i64 xk,.int .i64 ck,.int .i64 cs,.int .i64 cq,.string ckey,.string cold,.string cval,.string cunt,.int .i64 clim,.slice p1 n1 c1,.slice q1 m1 d1,.int .i64 ht,.int .i64 hv,.int .i64 hc,.int .i64 ri,.int .i64 rt] 32)).cell? ⟨w.heap.size,4,none⟩ = some (.int .i64 ck):=box_cell hbox 4
  have y5:(w.alloc (.cells #[.int .i64 k,.int .i64 xi,.int .i64 xt,.int .i64 xk,.int .i64 ck,.int .i64 cs,.int .i64 cq,.string ckey,.string cold,.string cval,.string cunt,.int .i64 clim,.slice p1 n1 c1,.slice q1 m1 d1,.int .i64 ht,.int .i64 hv,.int .i64 hc,.int .i64 ri,.int .i64 rt] 32)).cell? ⟨w.heap.size,5,none⟩ = some (.int .i64 cs):=box_cell hbox 5
  have y6:(w.alloc (.cells #[.int .i64 k,.int .i64 xi,.int .i64 xt,.int .i64 xk,.int .i64 ck,.int .i64 cs,.int .i64 cq,.string ckey,.string cold,.string cval,.string cunt,.int .i64 clim,.slice p1 n1 c1,.slice q1 m1 d1,.int .i64 ht,.int .i64 hv,.int .i64 hc,.int .i64 ri,.int .i64 rt] 32)).cell? ⟨w.heap.size,6,none⟩ = some (.int .i64 cq):=box_cell hbox 6
  have y7:(w.alloc (.cells #[.int .i64 k,.int .i64 xi,.int .i64 xt,.int .i64 xk,.int .i64 ck,.int .i64 cs,.int .i64 cq,.string ckey,.string cold,.string cval,.string cunt,.int .i64 clim,.slice p1 n1 c1,.slice q1 m1 d1,.int .i64 ht,.int .i64 hv,.int .i64 hc,.int .i64 ri,.int .i64 rt] 32)).cell? ⟨w.heap.size,7,none⟩ = some (.string ckey):=box_cell hbox 7
  have y8:(w.alloc (.cells #[.int .i64 k,.int .i64 xi,.int .i64 xt,.int .i64 xk,.int .i64 ck,.int .i64 cs,.int .i64 cq,.string ckey,.string cold,.string cval,.string cunt,.int .i64 clim,.slice p1 n1 c1,.slice q1 m1 d1,.int .i64 ht,.int .i64 hv,.int .i64 hc,.int .i64 ri,.int .i64 rt] 32)).cell? ⟨w.heap.size,8,none⟩ = some (.string cold):=box_cell hbox 8
  have y9:(w.alloc (.cells #[.int .i64 k,.int .i64 xi,.int .i64 xt,.int .i64 xk,.int .i64 ck,.int .i64 cs,.int .i64 cq,.string ckey,.string cold,.string cval,.string cunt,.int .i64 clim,.slice p1 n1 c1,.slice q1 m1 d1,.int .i64 ht,.int .i64 hv,.int .i64 hc,.int .i64 ri,.int .i64 rt] 32)).cell? ⟨w.heap.size,9,none⟩ = some (.string cval):=box_cell hbox 9
  have y10:(w.alloc (.cells #[.int .i64 k,.int .i64 xi,.int .i64 xt,.int .i64 xk,.int .i64 ck,.int .i64 cs,.int .i64 cq,.string ckey,.string cold,.string cval,.string cunt,.int .i64 clim,.slice p1 n1 c1,.slice q1 m1 d1,.int .i64 ht,.int .i64 hv,.int .i64 hc,.int .i64 ri,.int .i64 rt] 32)).cell? ⟨w.heap.size,10,none⟩ = some (.string cunt):=box_cell hbox 10
  have y11:(w.alloc (.cells #[.int .i64 k,.int .i64 xi,.int .i64 xt,.int .i64 xk,.int .i64 ck,.int .i64 cs,.int .i64 cq,.string ckey,.string cold,.string cval,.string cunt,.int .i64 clim,.slice p1 n1 c1,.slice q1 m1 d1,.int .i64 ht,.int .i64 hv,.int .i64 hc,.int .i64 ri,.int .i64 rt] 32)).cell? ⟨w.heap.size,11,none⟩ = some (.int .i64 clim):=box_cell hbox 11
  have y12:(w.alloc (.cells #[.int .i64 k,.int .i64 xi,.int .i64 xt,.int .i64 xk,.int .i64 ck,.int .i64 cs,.int .i64 cq,.string ckey,.string cold,.string cval,.string cunt,.int .i64 clim,.slice p1 n1 c1,.slice q1 m1 d1,.int .i64 ht,.int .i64 hv,.int .i64 hc,.int .i64 ri,.int .i64 rt] 32)).cell? ⟨w.heap.size,12,none⟩ = some (.slice p1 n1 c1):=box_cell hbox 12
  have y13:(w.alloc (.cells #[.int .i64 k,.int .i64 xi,.int .i64 xt,.int .i64 xk,.int .i64 ck,.int .i64 cs,.int .i64 cq,.string ckey,.string cold,.string cval,.string cunt,.int .i64 clim,.slice p1 n1 c1,.slice q1 m1 d1,.int .i64 ht,.int .i64 hv,.int .i64 hc,.int .i64 ri,.int .i64 rt] 32)).cell? ⟨w.heap.size,13,none⟩ = some (.slice q1 m1 d1):=box_cell hbox 13
  have y14:(w.alloc (.cells #[.int .i64 k,.int .i64 xi,.int .i64 xt,.int .i64 xk,.int .i64 ck,.int .i64 cs,.int .i64 cq,.string ckey,.string cold,.string cval,.string cunt,.int .i64 clim,.slice p1 n1 c1,.slice q1 m1 d1,.int .i64 ht,.int .i64 hv,.int .i64 hc,.int .i64 ri,.int .i64 rt] 32)).cell? ⟨w.heap.size,14,none⟩ = some (.int .i64 ht):=box_cell hbox 14
  have y15:(w.alloc (.cells #[.int .i64 k,.int .i64 xi,.int .i64 xt,.int .i64 xk,.int .i64 ck,.int .i64 cs,.int .i64 cq,.string ckey,.string cold,.string cval,.string cunt,.int .i64 clim,.slice p1 n1 c1,.slice q1 m1 d1,.int .i64 ht,.int .i64 hv,.int .i64 hc,.int .i64 ri,.int .i64 rt] 32)).cell? ⟨w.heap.size,15,none⟩ = some (.int .i64 hv):=box_cell hbox 15
  have y16:(w.alloc (.cells #[.int .i64 k,.int .i64 xi,.int .i64 xt,.int .i64 xk,.int .i64 ck,.int .i64 cs,.int .i64 cq,.string ckey,.string cold,.string cval,.string cunt,.int .i64 clim,.slice p1 n1 c1,.slice q1 m1 d1,.int .i64 ht,.int .i64 hv,.int .i64 hc,.int .i64 ri,.int .i64 rt] 32)).cell? ⟨w.heap.size,16,none⟩ = some (.int .i64 hc):=box_cell hbox 16
  have y17:(w.alloc (.cells #[.int .i64 k,.int .i64 xi,.int .i64 xt,.int .i64 xk,.int .i64 ck,.int .i64 cs,.int .i64 cq,.string ckey,.string cold,.string cval,.string cunt,.int .i64 clim,.slice p1 n1 c1,.slice q1 m1 d1,.int .i64 ht,.int .i64 hv,.int .i64 hc,.int .i64 ri,.int .i64 rt] 32)).cell? ⟨w.heap.size,17,none⟩ = some (.int .i64 ri):=box_cell hbox 17
  have y18:(w.alloc (.cells #[.int .i64 k,.int .i64 xi,.int .i64 xt,.int .i64 xk,.int .i64 ck,.int .i64 cs,.int .i64 cq,.string ckey,.string cold,.string cval,.string cunt,.int .i64 clim,.slice p1 n1 c1,.slice q1 m1 d1,.int .i64 ht,.int .i64 hv,.int .i64 hc,.int .i64 ri,.int .i64 rt] 32)).cell? ⟨w.heap.size,18,none⟩ = some (.int .i64 rt):=box_cell hbox 18
  have hm3:=fun ts t W=>min3_run ts t ht hv hc W
  have hm2:=fun ts t W=>min2_run ts t ri rt W
  by_cases e1:k = 1
  · have HF:Hid (g = ge):=P1.out e1
    subst e1
    go_enter Tryz.func43,Tryz.ntmps43
    go_wp2_with fail
    refine k1.mono ?_
    rintro _ w2 ⟨rfl,hb2⟩
    go_wp2
    go_ret
    exact ⟨by rw [HF.out];rfl,hb1.trans (hb2.mono hb1.size)⟩
  have e1':(k == 1) = false:=by simpa using e1
  by_cases e2:k = 2
  · have HF:Hid (g = decide (0≤min ht (min hv hc))):=by
      rw [Hid,P2.out e2,Bool.eq_iff_iff]
      simp only [Bool.and_eq_true,decide_eq_true_eq]
      omega
    subst e2
    go_enter Tryz.func43,Tryz.ntmps43
    go_wp2
    go_ret
    exact ⟨by rw [HF.out];rfl,hb1⟩
  have e2':(k == 2) = false:=by simpa using e2
  by_cases e3:k = 3
  · have HF:Hid (g = decide (0≤min ri rt)):=by
      rw [Hid,P3.out e3,Bool.eq_iff_iff]
      simp only [Bool.and_eq_true,decide_eq_true_eq]
      omega
    subst e3
    go_enter Tryz.func43,Tryz.ntmps43
    go_wp2
    go_ret
    exact ⟨by rw [HF.out];rfl,hb1⟩
  have e3':(k == 3) = false:=by simpa using e3
  have HF:Hid (g = false):=P4.out e1 e2 e3
  go_enter Tryz.func43,Tryz.ntmps43
  go_wp2
  go_ret
  exact ⟨by rw [HF.out];rfl,hb1⟩
set_option maxRecDepth 100000 in
set_option maxHeartbeats 2000000 in
theorem contentR_any (w:World) (x:RecV) (hF:FitsR w x) (hf:FewF x.e.f.f) (hc0:FewC x.e.c):Calls Tryz.prog 45 #[.agg x.arr] w fun e w'=>∃ v,e = .returned v∧Owns w' w.heap.size 5 v (bodyR11 x.r)∧Below w.heap.size w w':=by
  obtain ⟨i0,hi,hz0,hz1,hz2⟩:=info_parts info8c
  have hb1:Below w.heap.size w (w.alloc (.cells x.arr 32)):=(Below.refl _ _).alloc (Nat.le_refl _) _
  have hbox:=heap_alloc_new w (.cells x.arr 32)
  have hlt:w.heap.size < (w.alloc (.cells x.arr 32)).heap.size:=by simp
  have HB:Hid (bodyR11 x.r = zigB x.k++partR11 x.r):=rfl
  have P1:Hid (x.k = 1→partR11 x.r = entB x.e.e):=fun h=>if_pos h
  have P2:Hid (x.k = 2→partR11 x.r = hardB x.h):=fun h=>(if_neg (show ¬ x.k = 1 by omega)).trans (if_pos h)
  have P3:Hid (x.k ≠ 1→x.k ≠ 2→partR11 x.r = zigB x.i++zigB x.t):=fun h1 h2=>(if_neg h1).trans (if_neg h2)
  have K2:Hid (∀ W,Below w.heap.size w W→Calls Tryz.prog 111 #[.agg x.e.arr] W fun e w'=>∃ v,e = .returned v∧Owns w' W.heap.size 5 v (entB x.e.e)∧Below W.heap.size W w'):=fun W h=>bytesE_any W x.e (hF.e.f.below h) hf hc0
  have K4:Hid (∀ W,Calls Tryz.prog 112 #[.agg x.h.arr] W fun e w'=>∃ v,e = .returned v∧Owns w' W.heap.size 5 v (hardB x.h)∧Below W.heap.size W w'):=fun W=>bytesH_any W x.h
  have KZ:Hid (∀ n W,Calls Tryz.prog 110 #[.int .i64 n] W fun e w'=>e = .returned (.int .u64 (zigS n))∧w' = W):=fun n W=>zig_any n W
  have KP:Hid (∀ n W v ys,Has W v ys→ys.length≤1000→Calls Tryz.prog 109 #[v,.int .u64 (zigS n)] W fun e w'=>∃ v',e = .returned v'∧Owns w' W.heap.size 5 v' (ys++zigB n)∧Below W.heap.size W w'):=fun n W v ys h hl=>put_any v ys (zigS n) W h (by omega) (zig_bd n).1 (zig_bd n).2
  have hle:(entB x.e.e).length≤100000:=entB_len hc0 hf
  have hlh:(hardB x.h).length≤27:=by
    unfold hardB
    have:=zigB_le x.h.t
    have:=zigB_le x.h.v
    have:=zigB_le x.h.c
    simp only [List.length_append]
    omega
  have hlk:=zigB_le x.k
  have hli:=zigB_le x.i
  have hlt':=zigB_le x.t
  generalize bodyR11 x.r = bs at *
  generalize partR11 x.r = pr at *
  generalize entB x.e.e = eb at *
  generalize hardB x.h = hb at *
  clear hF hf hc0
  obtain ⟨k,⟨xi,xt,xk,⟨ck,cs,cq,ckey,cold,cval,cunt,clim⟩,⟨⟨p1,n1,c1⟩,⟨q1,m1,d1⟩,f1⟩⟩,⟨ht,hv,hc⟩,ri,rt⟩:=x
  unfold RecV.arr at *
  unfold EntV.arr Hard10.arr at *
  dsimp only at *
  have y0:(w.alloc (.cells #[.int .i64 k,.int .i64 xi,.int .i64 xt,.int .i64 xk,.int .i64 ck,.int .i64 cs,.int .i64 cq,.string ckey,.string cold,.string cval,.string cunt,.int .i64 clim,.slice p1 n1 c1,.slice q1 m1 d1,.int .i64 ht,.int .i64 hv,.int .i64 hc,.int .i64 ri,.int .i64 rt] 32)).cell? ⟨w.heap.size,0,none⟩ = some (.int .i64 k):=box_cell hbox 0
  go_enter Tryz.func45,Tryz.ntmps45
  go_wp2_with fail
  refine same_mono (KZ.out _ _) ?_
  go_wp2_with fail
  refine (KP.out k _ _ [] (Has.nil _) (by simp)).mono ?_
  rintro _ w3 ⟨v3,rfl,ho3,hb3⟩
  rw [List.nil_append] at ho3
  have hbox3:=box_below hbox hb3
  have hB3:=hb1.trans (hb3.mono hb1.size)
  clear y0 hbox
  have hW1:w.heap.size + 1≤(w.alloc (.cells #[.int .i64 k,.int .i64 xi,.int .i64 xt,.int .i64 xk,.int .i64 ck,.int .i64 cs,.int .i64 cq,.string ckey,.string cold,.string cval,.string cunt,.int .i64 clim,.slice p1 n1 c1,.slice q1 m1 d1,.int .i64 ht,.int .i64 hv,.int .i64 hc,.int .i64 ri,.int .i64 rt] 32)).heap.size:=by simp
  generalize (w.alloc (.cells #[.int .i64 k,.int .i64 xi,.int .i64 xt,.int .i64 xk,.int .i64 ck,.int .i64 cs,.int .i64 cq,.string ckey,.string cold,.string cval,.string cunt,.int .i64 clim,.slice p1 n1 c1,.slice q1 m1 d1,.int .i64 ht,.int .i64 hv,.int .i64 hc,.int .i64 ri,.int .i64 rt] 32)) = W1 at *
  have y0:w3.cell? ⟨w.heap.size,0,none⟩ = some (.int .i64 k):=box_cell hbox3 0
  have y1:w3.cell? ⟨w.heap.size,1,none⟩ = some (.int .i64 xi):=box_cell hbox3 1
  have y2:w3.cell? ⟨w.heap.size,2,none⟩ = some (.int .i64 xt):=box_cell hbox3 2
  have y3:w3.cell? ⟨w.heap.size,3,none⟩ = some (.int .i64 xk):=box_cell hbox3 3
  have y4:w3.cell? ⟨w.heap.size,4,none⟩ = some (.int .i64 ck):=box_cell hbox3 4
  have y5:w3.cell? ⟨w.heap.size,5,none⟩ = some (.int .i64 cs):=box_cell hbox3 5
  have y6:w3.cell? ⟨w.heap.size,6,none⟩ = some (.int .i64 cq):=box_cell hbox3 6
  have y7:w3.cell? ⟨w.heap.size,7,none⟩ = some (.string ckey):=box_cell hbox3 7
  have y8:w3.cell? ⟨w.heap.size,8,none⟩ = some (.string cold):=box_cell hbox3 8
  have y9:w3.cell? ⟨w.heap.size,9,none⟩ = some (.string cval):=box_cell hbox3 9
  have y10:w3.cell? ⟨w.heap.size,10,none⟩ = some (.string cunt):=box_cell hbox3 10
  have y11:w3.cell? ⟨w.heap.size,11,none⟩ = some (.int .i64 clim):=box_cell hbox3 11
  have y12:w3.cell? ⟨w.heap.size,12,none⟩ = some (.slice p1 n1 c1):=box_cell hbox3 12
  have y13:w3.cell? ⟨w.heap.size,13,none⟩ = some (.slice q1 m1 d1):=box_cell hbox3 13
  have y14:w3.cell? ⟨w.heap.size,14,none⟩ = some (.int .i64 ht):=box_cell hbox3 14
  have y15:w3.cell? ⟨w.heap.size,15,none⟩ = some (.int .i64 hv):=box_cell hbox3 15
  have y16:w3.cell? ⟨w.heap.size,16,none⟩ = some (.int .i64 hc):=box_cell hbox3 16
  have y17:w3.cell? ⟨w.heap.size,17,none⟩ = some (.int .i64 ri):=box_cell hbox3 17
  have y18:w3.cell? ⟨w.heap.size,18,none⟩ = some (.int .i64 rt):=box_cell hbox3 18
  have hl3:=box_lt hbox3
  have hs3:=hb3.size
  by_cases e1:k = 1
  · have HR:Hid (bs = zigB k++eb):=by rw [Hid,HB.out,P1.out e1]
    have k2:=K2.out w3 hB3
    generalize zigB k = zk at *
    subst e1
    go_wp2_with fail
    refine k2.mono ?_
    rintro _ w5 ⟨v5,rfl,ho5,hb5⟩
    have hB5:=hB3.trans (hb5.mono hB3.size)
    have ho3':=ho3.below hb5 (Nat.le_refl _)
    have hs5:=hb5.size
    clear k2 HB P1 P2 P3 K2 K4 KZ KP
    go_wp2_with (at_builtin;refine ap_slice _ rfl (.tmp 12) (.tmp 15) 33 rfl W1.heap.size 5 i0 Tryz.underlying33 hi hz0 hz1 hz2 _ zk eb rfl (by exact ho5.has) (by exact ho3') (by omega) (by omega) (by omega) ?_;intro v6 w6 ho6 hb6)
    go_ret
    exact ⟨_,rfl,by rw [HR.out];exact ho6.mono (by omega),hB5.trans (hb6.mono (by omega))⟩
  have e1':(k == 1) = false:=by simpa using e1
  by_cases e2:k = 2
  · have HR:Hid (bs = zigB k++hb):=by rw [Hid,HB.out,P2.out e2]
    have k2:=K4.out w3
    generalize zigB k = zk at *
    subst e2
    go_wp2_with fail
    refine k2.mono ?_
    rintro _ w5 ⟨v5,rfl,ho5,hb5⟩
    have hB5:=hB3.trans (hb5.mono hB3.size)
    have ho3':=ho3.below hb5 (Nat.le_refl _)
    have hs5:=hb5.size
    clear k2 HB P1 P2 P3 K2 K4 KZ KP
    go_wp2_with (at_builtin;refine ap_slice _ rfl (.tmp 19) (.tmp 22) 33 rfl W1.heap.size 5 i0 Tryz.underlying33 hi hz0 hz1 hz2 _ zk hb rfl (by exact ho5.has) (by exact ho3') (by omega) (by omega) (by omega) ?_;intro v6 w6 ho6 hb6)
    go_ret
    exact ⟨_,rfl,by rw [HR.out];exact ho6.mono (by omega),hB5.trans (hb6.mono (by omega))⟩
  have e2':(k == 2) = false:=by simpa using e2
  have HR:Hid (bs = zigB k++zigB ri++zigB rt):=by rw [Hid,HB.out,P3.out e1 e2,List.append_assoc]
  have kp1:=KP.out ri w3 v3 _ ho3.has (by omega)
  have hl2:(zigB k++zigB ri).length≤1000:=by rw [List.length_append];omega
  generalize zigB k++zigB ri = z2 at *
  clear HB P1 P2 P3 K2 K4
  go_wp2_with fail
  refine same_mono (KZ.out _ _) ?_
  go_wp2_with fail
  refine kp1.mono ?_
  rintro _ w5 ⟨v5,rfl,ho5,hb5⟩
  have hB5:=hB3.trans (hb5.mono hB3.size)
  have hbox5:=box_below hbox3 hb5
  clear kp1 y0 y1 y2 y3 y4 y5 y6 y7 y8 y9 y10 y11 y12 y13 y14 y15 y16 y17 y18 hbox3 hl3
  have y18:w5.cell? ⟨w.heap.size,18,none⟩ = some (.int .i64 rt):=box_cell hbox5 18
  have hl5:=box_lt hbox5
  have kp2:=KP.out rt w5 v5 _ ho5.has hl2
  go_wp2_with fail
  refine same_mono (KZ.out _ _) ?_
  go_wp2_with fail
  refine kp2.mono ?_
  rintro _ w7 ⟨v7,rfl,ho7,hb7⟩
  go_wp2
  go_ret
  exact ⟨_,rfl,by rw [HR.out];exact ho7.mono (by omega),hB5.trans (hb7.mono hB5.size)⟩
theorem body_len {r:Rec11} (hf:FewF r.e.f) (hc:FewC r.e.c):(bodyR11 r).length≤1000000:=by
  unfold bodyR11 partR11
  have h1:=zigB_le r.k
  have h2:=entB_len hc hf
  have h3:=zigB_le r.i
  have h4:=zigB_le r.t
  have h5:=zigB_le r.h.t
  have h6:=zigB_le r.h.v
  have h7:=zigB_le r.h.c
  rw [List.length_append]
  split
  · omega
  · split
    · unfold hardB
      simp only [List.length_append]
      omega
    · rw [List.length_append]
      omega
set_option maxRecDepth 100000 in
set_option maxHeartbeats 2000000 in
theorem bytesR_any (w:World) (hT:Tab w) (x:RecV) (hF:FitsR w x) (hf:FewF x.e.f.f) (hc0:FewC x.e.c):Calls Tryz.prog 17 #[.agg x.arr] w (Outs w (recB11 x.r)):=by
  have hb1:Below w.heap.size w (w.alloc (.cells x.arr 32)):=(Below.refl _ _).alloc (Nat.le_refl _) _
  have hbox:=heap_alloc_new w (.cells x.arr 32)
  have hlt:w.heap.size < (w.alloc (.cells x.arr 32)).heap.size:=by simp
  have HB:Hid (recB11 x.r = if goodR11 x.r = true then frameF (bodyR11 x.r) else []):=recB_frame x.r
  have k1:=goodR_any _ x (hF.below hb1)
  have K2:Hid (∀ W,Below w.heap.size w W→Calls Tryz.prog 45 #[.agg x.arr] W fun e w'=>∃ v,e = .returned v∧Owns w' W.heap.size 5 v (bodyR11 x.r)∧Below W.heap.size W w'):=fun W h=>contentR_any W x (hF.below h) hf hc0
  have KF:Hid (∀ W v ys,Below w.heap.size w W→Has W v ys→ys.length≤1000000→IsB ys→Calls Tryz.prog 44 #[v] W fun e w'=>∃ v',e = .returned v'∧Has w' v' (frameF ys)∧Below W.heap.size W w'):=fun W v ys hW h hl hB=>frame_all v ys W (hT.below hW (Nat.le_refl _)) h (by omega) hB
  have hle:(bodyR11 x.r).length≤1000000:=body_len hf hc0
  have HI:Hid (IsB (bodyR11 x.r)):=IsB.append (zigB_isB _) (partR_isB _)
  generalize recB11 x.r = rb at *
  generalize bodyR11 x.r = bs at *
  generalize goodR11 x.r = g at *
  clear hF hf hc0 hT
  have hld:=ldW_box _ _ _ _ _ hbox rfl
  cases g with
  | false =>
    have HR:Hid (rb = []):=by rw [Hid,HB.out,if_neg (by decide)]
    clear HB K2 KF
    go_enter Tryz.func17,Tryz.ntmps17
    go_wp2_with fail
    refine k1.mono ?_
    rintro _ w2 ⟨rfl,hb2⟩
    go_wp2
    go_ret
    exact ⟨_,rfl,by rw [HR.out];exact Has.nil _,hb1.trans (hb2.mono hb1.size)⟩
  | true =>
    have HR:Hid (rb = frameF bs):=by rw [Hid,HB.out,if_pos rfl]
    clear HB
    go_enter Tryz.func17,Tryz.ntmps17
    go_wp2_with fail
    refine k1.mono ?_
    rintro _ w2 ⟨rfl,hb2⟩
    have hB2:=hb1.trans (hb2.mono hb1.size)
    have hbox2:=box_below hbox hb2
    have hld2:=ldW_box _ _ _ _ _ hbox2 rfl
    have hl2:=box_lt hbox2
    have k2:=K2.out w2 hB2
    clear k1 hld hbox hlt
    go_wp2_with fail
    refine k2.mono ?_
    rintro _ w3 ⟨v3,rfl,ho3,hb3⟩
    have hB3:=hB2.trans (hb3.mono hB2.size)
    have kf:=KF.out w3 v3 bs hB3 ho3.has hle HI.out
    go_wp2_with fail
    refine kf.mono ?_
    rintro _ w4 ⟨v4,rfl,ho4,hb4⟩
    go_wp2
    go_ret
    exact ⟨_,rfl,by rw [HR.out];exact ho4,hB3.trans (hb4.mono hB3.size)⟩
end Go.Proofs.YtkbbhllchombdaaGreatDoor
