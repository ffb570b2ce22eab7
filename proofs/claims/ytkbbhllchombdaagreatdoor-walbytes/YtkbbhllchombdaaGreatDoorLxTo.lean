import Derived.Test.YtkbbhllchombdaaGreatDoorEn6To
import Derived.Test.YtkbbhllchombdaaGreatDoorCmVTo
import Derived.Test.YtkbbhllchombdaaGreatDoorLd
import Derived.Test.YtkbbhllchombdaaGreatDoorHRowETo
import Derived.Laws.IdiomCopy
import Derived.AtR
namespace Go.Proofs.YtkbbhllchombdaaGreatDoor
open Go.RowKit Go.Shelf
attribute [local go_sem ↓] ldE_exec ldE_run stE_exec stE_run ldC_exec ldC_run stC_exec stC_run ldW_exec stW_exec ldR_exec stR_exec ldT_exec stT_exec ldU_exec stU_exec oc_int oc_bool oc_string oc_slice oc_pointer
def Outs (w:World) (ys:List Int) (e:Ending) (w':World):Prop:=∃ v',e = .returned v'∧Has w' v' ys∧Below w.heap.size w w'
set_option maxRecDepth 100000 in
set_option maxHeartbeats 1500000 in
theorem rnums_any (w:World) (v:Value) (xs ns:List Int) (p:Option Addr) (n c:Nat) (h:Has w v xs) (hN:HasI w (.slice p n c) ns) (hn2:n≤1000) (hl:xs.length≤1073741824) :
    Calls Tryz.prog 118 #[v,.slice p n c] w (Outs w (xs++numsB ns)):=by
  have HN:Hid (ns.length = n):=hN.len.1
  have HX:Hid (HasI w (.slice p n c) ns):=hN
  clear hN
  go_enter Tryz.func118,Tryz.ntmps118
  go_wp2
  go_loopw [0,9] (fun s0 s9 wr=>∃ (j:Nat) (u:Value),u = s0∧j≤n∧s9 = .int .i64 (j:Nat)∧Has wr u (xs++numsB (ns.take j))∧Below w.heap.size w wr) (fun _ s9 _=>n - (intOf s9).toNat)
  case atStart=>exact ⟨0,_,rfl,Nat.zero_le _,rfl,by rw [List.take_zero,show numsB [] = [] from rfl,List.append_nil];exact h,Below.refl _ _⟩
  case round =>
    clear h
    obtain ⟨j,u,hu,hj,rfl,hP,hb⟩:=hrel
    subst hu
    by_cases hlt:j < n
    · obtain ⟨b,o,rfl,hb0,hc0⟩:=HX.out.at hlt
      have hc:=(hb.cell (p:=⟨b,o + j,none⟩) hb0).trans hc0
      have hbl:b < wr.heap.size:=Nat.lt_of_lt_of_le hb0 hb.size
      have HS:Hid (numsB (ns.take (j + 1)) = numsB (ns.take j)++zigB (ns.getD j 0)):=numsB_snoc (by rw [HN.out];exact hlt)
      have hlen:=numsB_take ns j
      rw [HN.out] at hlen
      generalize ns.getD j 0 = x at *
      have hzz:=rzig_any x wr
      have hzb:=zig_bd x
      have hpp:=rput_cod u _ (zigS x) wr hP (by rw [List.length_append];omega) hzb.1 hzb.2
      have HZ:Hid (zigB x = numB (zigS x)):=rfl
      generalize zigS x = z at *
      have hbz:=hb.size
      clear hP hc0 hb0
      go_wp2_with fail
      refine same_mono hzz ?_
      go_wp2_with fail
      refine hpp.mono ?_
      rintro e w3 ⟨v3,rfl,ho3,hb3⟩
      clear hzz hpp
      go_wp2
      go_roundw
      case rel=>exact ⟨j + 1,_,rfl,by omega,by go_num,by rw [HS.out,HZ.out,← List.append_assoc];exact ho3.has,hb.trans (hb3.mono hbz)⟩
      case measure=>simp only [intOf];omega
    · rw [List.take_of_length_le (by rw [HN.out];omega)] at hP
      go_wp2
      go_ret
      exact ⟨_,rfl,hP,hb⟩
set_option maxRecDepth 100000 in
set_option maxHeartbeats 1500000 in
theorem rlist_any (w:World) (v:Value) (xs ns:List Int) (p:Option Addr) (n c:Nat) (h:Has w v xs) (hN:HasI w (.slice p n c) ns) (hn2:n≤1000) (hl:xs.length≤1073700000) :
    Calls Tryz.prog 236 #[v,.slice p n c] w (Outs w (xs++listB ns)):=by
  have hn:=hN.len.1
  have HL:Hid (xs++listB ns = xs++numB (n:Int)++numsB ns):=by rw [Hid,listB,hn,List.append_assoc]
  have k1:=rput_cod v xs (n:Int) w h (by omega) (by omega) (by omega)
  have hnl:=numB_le (n:Int)
  have k2:=fun W u (hb:Below w.heap.size w W) (hu:Has W u (xs++numB (n:Int)))=>rnums_any W u _ ns p n c hu (hN.below hb (Nat.le_refl _)) hn2 (by rw [List.length_append];omega)
  clear h hN hn
  go_enter Tryz.func236,Tryz.ntmps236
  go_wp2_with fail
  refine k1.mono ?_
  rintro e w1 ⟨v1,rfl,ho1,hb1⟩
  have k3:=k2 w1 v1 hb1 ho1.has
  clear k1 k2
  go_wp2_with fail
  refine k3.mono ?_
  rintro e w2 ⟨v2,rfl,ho2,hb2⟩
  go_wp2
  go_ret
  exact ⟨_,rfl,by rw [HL.out];exact ho2,hb1.trans (hb2.mono hb1.size)⟩
theorem keepF {w1 wA wB:World} {b:Nat} {xb0 xb1:Value} (hlb:b < w1.heap.size) (h:wA.cell? ⟨b,0,none⟩ = some xb0∧wA.cell? ⟨b,1,none⟩ = some xb1∧Below w1.heap.size w1 wA) (hb:Below wA.heap.size wA wB) :
    wB.cell? ⟨b,0,none⟩ = some xb0∧wB.cell? ⟨b,1,none⟩ = some xb1∧Below w1.heap.size w1 wB:=by
  obtain ⟨h0,h1,hz⟩:=h
  have hs:=hz.size
  exact ⟨(hb.cell (p:=⟨b,0,none⟩) (by exact Nat.lt_of_lt_of_le hlb hs)).trans h0,(hb.cell (p:=⟨b,1,none⟩) (by exact Nat.lt_of_lt_of_le hlb hs)).trans h1,hz.trans (hb.mono hs)⟩
theorem keepF0 {w1:World} {b:Nat} {xb0 xb1:Value} (h0:w1.cell? ⟨b,0,none⟩ = some xb0) (h1:w1.cell? ⟨b,1,none⟩ = some xb1):w1.drew.cell? ⟨b,0,none⟩ = some xb0∧w1.drew.cell? ⟨b,1,none⟩ = some xb1∧Below w1.heap.size w1 w1.drew :=
  ⟨h0,h1,⟨rfl,rfl,rfl,Nat.le_refl _,fun _ _=>rfl⟩⟩
theorem keepFB {w1 wA:World} {b:Nat} {xb0 xb1:Value} (h:wA.cell? ⟨b,0,none⟩ = some xb0∧wA.cell? ⟨b,1,none⟩ = some xb1∧Below w1.heap.size w1 wA):Below w1.heap.size w1 wA:=h.2.2
set_option maxRecDepth 100000 in
set_option maxHeartbeats 2000000 in
theorem rconf_any (w:World) (v:Value) (xs:List Int) (x:ConfV) (h:Has w v xs) (hF:FitsF w x) (hf:FewF x.f) (hl:xs.length≤1073600000) :
    Calls Tryz.prog 192 #[v,.agg x.arr] w (Outs w (xs++confB x.f)):=by
  have hb1:Below w.heap.size w (w.alloc (.cells x.arr 26)):=(Below.refl _ _).alloc (Nat.le_refl _) _
  have hbz:=hb1.size
  have hbox:ConfAt (w.alloc (.cells x.arr 26)) w.heap.size x:=heap_alloc_new w _
  have hn1:=hF.u.len.1
  have hn2:=hF.v.len.1
  obtain ⟨f1,f2⟩:=hf
  have HC:Hid (xs++confB x.f = xs++listB x.f.vs++listB x.f.ls):=by rw [Hid,confB,List.append_assoc]
  have hll:=listB_len x.f.vs
  have k1:=fun W (hb:Below (w.alloc (.cells x.arr 26)).heap.size (w.alloc (.cells x.arr 26)) W)=>rlist_any W v xs x.f.vs _ _ _ ((h.below hb1 (Nat.le_refl _)).below hb (Nat.le_refl _)) ((hF.below hb1).below hb).u (by omega) (by omega)
  have k2:=fun W u (hu:Has W u (xs++listB x.f.vs)) (hb:Below (w.alloc (.cells x.arr 26)).heap.size (w.alloc (.cells x.arr 26)) W)=>rlist_any W u (xs++listB x.f.vs) x.f.ls _ _ _ hu ((hF.below hb1).below hb).v (by omega) (by rw [List.length_append];omega)
  have HK1:Hid _:=k1
  have HK2:Hid _:=k2
  generalize xs++confB x.f = bs at *
  generalize xs++listB x.f.vs++listB x.f.ls = y2 at *
  generalize xs++listB x.f.vs = y1 at *
  obtain ⟨pv,cv,rfl,-,-,-⟩:=id h
  generalize hxl:xs.length = nv at *
  clear hxl
  obtain ⟨⟨p,n,c⟩,⟨q,m,d⟩,f⟩:=x
  unfold ConfV.arr at *
  dsimp only at *
  clear hF hn1 hn2 h k1 k2
  go_enter Tryz.func192,Tryz.ntmps192
  go_wp2_with fail
  generalize w.alloc (.cells #[.slice p n c,.slice q m d] 26) = W1 at *
  have k1:=HK1.out
  have k2:=HK2.out
  obtain ⟨c0,c1⟩:=hbox.cells
  dsimp only at c0 c1
  have hlt:=box_lt hbox
  generalize hbb:w.heap.size = b at *
  have Hbb:Hid (w.heap.size = b):=hbb
  clear hbb HK1 HK2
  have s0:=keepF0 c0 c1
  go_region_held3 (fun w'=>w'.cell? ⟨b,0,none⟩ = some (.slice p n c)∧w'.cell? ⟨b,1,none⟩ = some (.slice q m d)∧Below W1.heap.size W1 w')
    (first | exact s0 | assumption | exact keepF hlt (by assumption) (by assumption))
    (first
      | (go_at_call 236;(with_reducible refine Calls.mono (k1 _ (keepFB (by assumption))) ?_);rintro e w2 ⟨v2,rfl,ho2,hb2⟩;obtain ⟨p2,q2,rfl,-,-,-⟩:=id ho2)
      | (go_at_call 236;(with_reducible refine Calls.mono (k2 _ _ ho2 (keepFB (by assumption))) ?_);rintro e w3 ⟨v3,rfl,ho3,hb3⟩))
  all_goals
    have hW:Below W1.heap.size W1 w3:=keepFB (by assumption)
    go_wp2
    go_ret
    exact ⟨_,rfl,by rw [HC.out];exact ho3,by rw [Hbb.out];exact hb1.trans (hW.mono hbz)⟩
set_option maxRecDepth 100000 in
set_option maxHeartbeats 2000000 in
theorem rentry_any (w:World) (v:Value) (xs:List Int) (x:EntV) (h:Has w v xs) (hF:FitsF w x.f) (hf:FewF x.f.f) (hc:FewC x.c) (hl:xs.length≤1073000000) :
    Calls Tryz.prog 117 #[v,.agg x.arr] w (Outs w (xs++entB x.e)):=by
  have hb1:Below w.heap.size w (w.alloc (.cells x.arr 28)):=(Below.refl _ _).alloc (Nat.le_refl _) _
  have hbox:EntAt (w.alloc (.cells x.arr 28)) w.heap.size x:=heap_alloc_new w _
  have HE:Hid (entB x.e = zigB x.i++zigB x.t++zigB x.k++(if x.k = 2 then bytB (cmdB x.c) else [])++(if x.k = 3 then confB x.f.f else [])):=rfl
  have HN:Hid (numsB [x.i,x.t,x.k] = zigB x.i++zigB x.t++zigB x.k):=by simp [Hid,numsB]
  have hl1:(numsB [x.i,x.t,x.k]).length≤27:=numsB_len _
  have kb:=fun W=>rbytes20_any x.c W hc
  have hcl:=cmdB_few hc
  have HBc:Hid (IsB (cmdB x.c)):=cmdB_isB x.c
  have kt:Hid (∀ W u,Has W u (xs++numsB [x.i,x.t,x.k])→Calls Tryz.prog 190 #[u,.string (strOfNums (cmdB x.c))] W fun e w'=>∃ v',e = .returned v'∧Owns w' W.heap.size 5 v' (xs++numsB [x.i,x.t,x.k]++bytB (cmdB x.c))∧Below W.heap.size W w'):=fun W u hu=>by
    have:=rputText_any u _ (strOfNums (cmdB x.c)) W hu (by rw [List.length_append];omega) (by rw [size_of HBc.out];omega)
    rwa [textB_of HBc.out] at this
  have kf:Hid (∀ W u,Below w.heap.size w W→Has W u (xs++numsB [x.i,x.t,x.k])→Calls Tryz.prog 192 #[u,.agg x.f.arr] W (Outs W (xs++numsB [x.i,x.t,x.k]++confB x.f.f))):=fun W u hb hu=>rconf_any W u _ x.f hu (hF.below hb) hf (by rw [List.length_append];omega)
  have kn:=fun W (hb:Below w.heap.size w W) p (hR:HasI W (.slice p 3 3) [x.i,x.t,x.k])=>rnums_any W v xs [x.i,x.t,x.k] p 3 3 (h.below hb (Nat.le_refl _)) hR (by omega) (by omega)
  have HKN:Hid _:=kn
  clear kn h hl hcl hc hf hF
  generalize numsB [x.i,x.t,x.k] = ns at *
  generalize confB x.f.f = fb at *
  generalize hbs:entB x.e = bs at *
  clear hbs
  obtain ⟨i,t,k,⟨ck,cs,cq,ckey,cold,cval,cunt,clim⟩,⟨⟨p,n,c⟩,⟨q,m,d⟩,f⟩⟩:=x
  unfold EntV.arr at *
  unfold ConfV.arr Cmd9.arr at *
  dsimp only at *
  have hr:=HasI.lit (w.alloc (.cells #[.int .i64 i,.int .i64 t,.int .i64 k,.int .i64 ck,.int .i64 cs,.int .i64 cq,.string ckey,.string cold,.string cval,.string cunt,.int .i64 clim,.slice p n c,.slice q m d] 28)) [i,t,k] 3
  have hz1:(w.alloc (.cells #[.int .i64 i,.int .i64 t,.int .i64 k,.int .i64 ck,.int .i64 cs,.int .i64 cq,.string ckey,.string cold,.string cval,.string cunt,.int .i64 clim,.slice p n c,.slice q m d] 28)).heap.size = w.heap.size + 1:=by simp
  have hb2:=(Below.refl _ (w.alloc (.cells #[.int .i64 i,.int .i64 t,.int .i64 k,.int .i64 ck,.int .i64 cs,.int .i64 cq,.string ckey,.string cold,.string cval,.string cunt,.int .i64 clim,.slice p n c,.slice q m d] 28))).alloc (Nat.le_refl _) (.cells #[.int .i64 i,.int .i64 t,.int .i64 k] 3)
  rw [hz1] at hr
  have hB2:=hb1.trans (hb2.mono hb1.size)
  have k1:=HKN.out _ hB2 _ hr
  have hbox2:=box_below hbox hb2
  clear hbox hr HKN hb2 hb1
  go_enter Tryz.func117,Tryz.ntmps117
  go_wp2_with fail
  generalize (w.alloc (.cells #[.int .i64 i,.int .i64 t,.int .i64 k,.int .i64 ck,.int .i64 cs,.int .i64 cq,.string ckey,.string cold,.string cval,.string cunt,.int .i64 clim,.slice p n c,.slice q m d] 28)).alloc (.cells #[.int .i64 i,.int .i64 t,.int .i64 k] 3) = W2 at *
  refine k1.mono ?_
  rintro e w3 ⟨v3,rfl,ho3,hb3⟩
  have hB3:=hB2.trans (hb3.mono hB2.size)
  have hbox3:EntAt w3 w.heap.size ⟨i,t,k,⟨ck,cs,cq,ckey,cold,cval,cunt,clim⟩,⟨⟨p,n,c⟩,⟨q,m,d⟩,f⟩⟩:=box_below hbox2 hb3
  obtain ⟨c0,c1,c2,c3,c4,c5,c6,c7,c8,c9,c10,c11,c12⟩:=hbox3.cells
  dsimp only at c0 c1 c2 c3 c4 c5 c6 c7 c8 c9 c10 c11 c12
  have hlt:=box_lt hbox3
  clear k1 hbox2
  by_cases h2:k = 2
  · have HE2:Hid (xs++bs = xs++ns++bytB (cmdB ⟨ck,cs,cq,ckey,cold,cval,cunt,clim⟩)):=by rw [Hid,HE.out,← HN.out,if_pos h2,if_neg (by omega),List.append_nil,List.append_assoc]
    subst h2
    clear HE
    go_wp2_with fail
    refine (kb _).mono ?_
    rintro e w4 ⟨v4,rfl,ho4,hb4⟩
    have k5:=kt.out w4 v3 (ho3.below hb4 (Nat.le_refl _))
    have cv:=ho4.has.conv (P:=Tryz.prog) 33 5 9 Tryz.underlying33 Tryz.underlying5 Tryz.underlying9
    have hB4:=hB3.trans (hb4.mono hB3.size)
    have hbox4:EntAt w4 w.heap.size ⟨i,t,2,⟨ck,cs,cq,ckey,cold,cval,cunt,clim⟩,⟨⟨p,n,c⟩,⟨q,m,d⟩,f⟩⟩:=box_below hbox3 hb4
    obtain ⟨p4,q4,hv4,-,-,-⟩:=id ho4.has
    rw [hv4] at cv ⊢
    generalize cmdB ⟨ck,cs,cq,ckey,cold,cval,cunt,clim⟩ = cb at *
    generalize cb.length = lcb at *
    generalize strOfNums cb = sb at *
    clear kb c0 c1 c2 c3 c4 c5 c6 c7 c8 c9 c10 c11 c12 hlt hbox3
    go_wp2_with fail
    refine k5.mono ?_
    rintro e w5 ⟨v5,rfl,ho5,hb5⟩
    have hbox5:EntAt w5 w.heap.size ⟨i,t,2,⟨ck,cs,cq,ckey,cold,cval,cunt,clim⟩,⟨⟨p,n,c⟩,⟨q,m,d⟩,f⟩⟩:=box_below hbox4 hb5
    obtain ⟨-,-,c2,-⟩:=hbox5.cells
    dsimp only at c2
    have hlt:=box_lt hbox5
    go_wp2
    go_ret
    exact ⟨_,rfl,by rw [HE2.out];exact ho5.has,hB4.trans (hb5.mono hB4.size)⟩
  · have e2:(k == 2) = false:=by simpa using h2
    by_cases h3:k = 3
    · have HE2:Hid (xs++bs = xs++ns++fb):=by rw [Hid,HE.out,← HN.out,if_neg h2,if_pos h3,List.append_nil,List.append_assoc]
      subst h3
      have k5:=kf.out w3 v3 hB3 ho3
      clear HE kb
      go_wp2_with fail
      refine k5.mono ?_
      rintro e w5 ⟨v5,rfl,ho5,hb5⟩
      go_wp2
      go_ret
      exact ⟨_,rfl,by rw [HE2.out];exact ho5,hB3.trans (hb5.mono hB3.size)⟩
    · have HE2:Hid (xs++bs = xs++ns):=by rw [Hid,HE.out,← HN.out,if_neg h2,if_neg h3,List.append_nil,List.append_nil]
      have e3:(k == 3) = false:=by simpa using h3
      clear HE kb
      go_wp2
      go_ret
      exact ⟨_,rfl,by rw [HE2.out];exact ho3,hB3⟩
set_option maxRecDepth 100000 in
set_option maxHeartbeats 1500000 in
theorem rbytesE_any (w:World) (x:EntV) (hF:FitsF w x.f) (hf:FewF x.f.f) (hc:FewC x.c) :
    Calls Tryz.prog 48 #[.agg x.arr] w (Outs w (entB x.e)):=by
  have hb1:Below w.heap.size w (w.alloc (.cells x.arr 28)):=(Below.refl _ _).alloc (Nat.le_refl _) _
  have k1:=rentry_any (w.alloc (.cells x.arr 28)) (.slice none 0 0) [] x (Has.nil _) (hF.below hb1) hf hc (by simp)
  rw [List.nil_append] at k1
  generalize entB x.e = bs at *
  obtain ⟨i,t,k,⟨ck,cs,cq,ckey,cold,cval,cunt,clim⟩,⟨⟨p,n,c⟩,⟨q,m,d⟩,f⟩⟩:=x
  unfold EntV.arr at *
  dsimp only at *
  go_enter Tryz.func48,Tryz.ntmps48
  go_wp2_with fail
  refine k1.mono ?_
  rintro e w3 ⟨v3,rfl,ho3,hb3⟩
  go_wp2
  go_ret
  exact ⟨_,rfl,ho3,hb1.trans (hb3.mono hb1.size)⟩
set_option maxRecDepth 100000 in
set_option maxHeartbeats 1500000 in
theorem rbytesH_any (w:World) (x:Hard10) :
    Calls Tryz.prog 50 #[.agg x.arr] w (Outs w (hardB x)):=by
  have hb1:Below w.heap.size w (w.alloc (.cells x.arr 30)):=(Below.refl _ _).alloc (Nat.le_refl _) _
  have hz1:(w.alloc (.cells x.arr 30)).heap.size = w.heap.size + 1:=by simp
  have HN:Hid (hardB x = numsB [x.t,x.v,x.c]):=by simp [Hid,numsB,hardB]
  have hr:=HasI.lit (w.alloc (.cells x.arr 30)) [x.t,x.v,x.c] 3
  have hb2:=(Below.refl _ (w.alloc (.cells x.arr 30))).alloc (Nat.le_refl _) (.cells #[.int .i64 x.t,.int .i64 x.v,.int .i64 x.c] 3)
  have hB2:=hb1.trans (hb2.mono hb1.size)
  rw [hz1] at hr
  have k1:=rnums_any _ (.slice none 0 0) [] [x.t,x.v,x.c] _ 3 3 (Has.nil _) hr (by omega) (by simp)
  rw [List.nil_append,← HN.out] at k1
  clear HN hr hb2 hb1 hz1
  generalize hardB x = bs at *
  obtain ⟨t,v,c⟩:=x
  unfold Hard10.arr at *
  simp only [List.map_cons,List.map_nil] at k1
  dsimp only at *
  go_enter Tryz.func50,Tryz.ntmps50
  go_wp2_with fail
  refine k1.mono ?_
  rintro e w3 ⟨v3,rfl,ho3,hb3⟩
  go_wp2
  go_ret
  exact ⟨_,rfl,ho3,hB2.trans (hb3.mono hB2.size)⟩
end Go.Proofs.YtkbbhllchombdaaGreatDoor

namespace Go.Proofs.YtkbbhllchombdaaGreatDoor
open Go.RowKit
theorem there_box {w:World} {b:Nat} {a:Array Value} {t:TypeId} (h:w.heap[b]? = some (.cells a t (0,0))) (o n:Nat) (hn:o + n≤a.size):w.there b o n:=by
  intro j hj
  refine ⟨?_,frozen9 h (o + j)⟩
  rw [box_cell h (o + j),Array.getElem?_eq_getElem (by omega)]
  rfl
theorem setCells_grown (b:Nat):∀ (vs:List Value) (o:Nat) (w:World),w.grownBy (w.setCells b o vs) (some b)
  | [],_,_=>⟨rfl,rfl,rfl,Nat.le_refl _,fun _ _ _=>rfl⟩
  | v :: r,o,w=>grown_trans (grown_set w b o v) (setCells_grown b r (o + 1) _)
theorem setCells_at {b:Nat} {t:TypeId}:∀ (vs:List Value) (o:Nat) (w:World) (a:Array Value),w.heap[b]? = some (.cells a t (0,0))→o + vs.length≤a.size→∃ c,(w.setCells b o vs).heap[b]? = some (.cells c t (0,0))∧c.toList = a.toList.take o++vs++a.toList.drop (o + vs.length)
  | [],o,w,a,h,_=>⟨a,h,by simp⟩
  | v :: r,o,w,a,h,hl=>by
    have ho:o < a.size:=by simp at hl;omega
    obtain ⟨c,h1,h2⟩:=setCells_at r (o + 1) _ _ (set_block9 h o v ho) (by simp at hl ⊢;omega)
    refine ⟨c,h1,?_⟩
    rw [h2,Array.toList_set,List.length_cons]
    have e1:(a.toList.set o v).take (o + 1) = a.toList.take o++[v]:=by
      rw [List.take_add_one,List.take_set_of_le (Nat.le_refl _),List.getElem?_set_self (by simpa using ho)]
      rfl
    have e2:(a.toList.set o v).drop (o + 1 + r.length) = a.toList.drop (o + (r.length + 1)):=by
      rw [List.drop_set_of_lt (by omega),show o + 1 + r.length = o + (r.length + 1) by omega]
    rw [e1,e2]
    simp
theorem setCells_box {w:World} {b:Nat} {a:Array Value} {t:TypeId} (h:w.heap[b]? = some (.cells a t (0,0))) (o:Nat) (vs:List Value) (c:Array Value) (hl:o + vs.length≤a.size) (hc:c.toList = a.toList.take o++vs++a.toList.drop (o + vs.length)):(w.setCells b o vs).heap[b]? = some (.cells c t (0,0)):=by
  obtain ⟨d,h1,h2⟩:=setCells_at vs o w a h hl
  have:c = d:=Array.toList_inj.1 (hc.trans h2.symm)
  rw [this]
  exact h1
theorem setCells_below {B:Nat} {w0:World} {b:Nat} (hb:B≤b):∀ (vs:List Value) (o:Nat) {w:World},Below B w0 w→Below B w0 (w.setCells b o vs)
  | [],_,_,h=>h
  | v :: r,o,_,h=>setCells_below hb r (o + 1) (h.setCell (p:=⟨b,o,none⟩) hb v)
def ldH (v:Value):Sem Value:=Instr.loadAt 30 v
def stH (v x:Value):Sem Unit:=Instr.storeAt 30 v x
theorem ldH_exec (ρ:Operand→Value) (d:Option Tmp) (x:Operand) (t:TypeId) (p:String) (af:Array Edge) (g:Option (Nat × Bool)) (w:World):(execOp ρ { dst:=d,op:=.load 30 x,type:=t,pos:=p,after:=af,guard:=g }).run Tryz.prog w = ((ldH (ρ x)).run Tryz.prog w).andThen fun v w'=>.ok (.value v) w':=by
  unfold execOp ldH
  simp only [Sem.run_bind,Sem.run_pure]
theorem stH_exec (ρ:Operand→Value) (d:Option Tmp) (x y:Operand) (t:TypeId) (p:String) (af:Array Edge) (g:Option (Nat × Bool)) (w:World):(execOp ρ { dst:=d,op:=.store 30 x y,type:=t,pos:=p,after:=af,guard:=g }).run Tryz.prog w = ((stH (ρ x) (ρ y)).run Tryz.prog w).andThen fun _ w'=>.ok .skip w':=by
  unfold execOp stH
  simp only [Sem.run_bind,Sem.run_pure]
theorem ldH_run (w:World) (b o:Nat) (h:(w.cell? ⟨b,o,none⟩).isSome = true∧(w.cell? ⟨b,o + 1,none⟩).isSome = true∧(w.cell? ⟨b,o + 2,none⟩).isSome = true):(ldH (.pointer (some ⟨b,o,none⟩))).run Tryz.prog w = .ok (.agg #[(w.cell? ⟨b,o,none⟩).getD undef,(w.cell? ⟨b,o + 1,none⟩).getD undef,(w.cell? ⟨b,o + 2,none⟩).getD undef]) w:=by
  obtain ⟨h0,h1,h2⟩:=h
  obtain ⟨v0,e0⟩:=Option.isSome_iff_exists.1 h0
  obtain ⟨v1,e1⟩:=Option.isSome_iff_exists.1 h1
  obtain ⟨v2,e2⟩:=Option.isSome_iff_exists.1 h2
  rw [e0,e1,e2]
  refine run_loadAt_mid w b o 30 [v0,v1,v2] _ ?_ Tryz.underlying30 rfl (by kernel_rfl)
  intro j v hj
  rcases j with _ | j
  · simp at hj;subst hj;exact e0
  rcases j with _ | j
  · simp at hj;subst hj;exact e1
  rcases j with _ | j
  · simp at hj;subst hj;exact e2
  · simp at hj
theorem stH_run (w:World) (b o:Nat) (v0 v1 v2:Value) (h:(w.cell? ⟨b,o,none⟩).isSome = true∧w.frozen? ⟨b,o,none⟩ = false∧(w.cell? ⟨b,o + 1,none⟩).isSome = true∧w.frozen? ⟨b,o + 1,none⟩ = false∧(w.cell? ⟨b,o + 2,none⟩).isSome = true∧w.frozen? ⟨b,o + 2,none⟩ = false) (hone:v0.oneCell' = true∧v1.oneCell' = true∧v2.oneCell' = true):(stH (.pointer (some ⟨b,o,none⟩)) (.agg #[v0,v1,v2])).run Tryz.prog w = .ok () (((w.setCell ⟨b,o,none⟩ v0).setCell ⟨b,o + 1,none⟩ v1).setCell ⟨b,o + 2,none⟩ v2):=by
  obtain ⟨h0,f0,h1,f1,h2,f2⟩:=h
  obtain ⟨o0,o1,o2⟩:=hone
  refine (run_storeAt_mid w b o 30 #[v0,v1,v2] ?_ (by kernel_rfl) ?_).trans rfl
  · intro j hj
    rcases j with _ | j
    · exact ⟨h0,f0⟩
    rcases j with _ | j
    · exact ⟨h1,f1⟩
    rcases j with _ | j
    · exact ⟨h2,f2⟩
    · exact absurd hj (by show ¬ (j + 3 < 3);omega)
  · refine all_oneCell_toArray (cs:=[v0,v1,v2]) ?_
    intro v hv
    simp only [List.mem_cons,List.not_mem_nil,or_false] at hv
    rcases hv with rfl | rfl | rfl
    · exact o0
    · exact o1
    · exact o2
theorem ldE_execI (ro:Option Nat) (ρ:Operand→Value) (d:Option Tmp) (x:Operand) (t:TypeId) (p:String) (af:Array Edge) (g:Option (Nat × Bool)) (w:World):(Oper.semAt ro ρ { dst:=d,op:=.load 28 x,type:=t,pos:=p,after:=af,guard:=g }).run Tryz.prog w = ((ldE (ρ x)).run Tryz.prog w).andThen fun v w'=>.ok (.value v) w':=by
  rw [Oper.semAt_eq _ _ _ (by intro c h;cases h)]
  exact ldE_exec ρ d x t p af g w
theorem stE_execI (ro:Option Nat) (ρ:Operand→Value) (d:Option Tmp) (x y:Operand) (t:TypeId) (p:String) (af:Array Edge) (g:Option (Nat × Bool)) (w:World):(Oper.semAt ro ρ { dst:=d,op:=.store 28 x y,type:=t,pos:=p,after:=af,guard:=g }).run Tryz.prog w = ((stE (ρ x) (ρ y)).run Tryz.prog w).andThen fun _ w'=>.ok .skip w':=by
  rw [Oper.semAt_eq _ _ _ (by intro c h;cases h)]
  exact stE_exec ρ d x y t p af g w
theorem ldE_box (w:World) (b:Nat) (a:Array Value) (t:TypeId) (fr:Nat × Nat) (h:w.heap[b]? = some (.cells a t fr)) (hs:a.size = 13):(ldE (.pointer (some ⟨b,0,none⟩))).run Tryz.prog w = .ok (.agg a) w:=by
  refine (run_loadAt_mid w b 0 28 a.toList _ (fun j v hj=>?_) Tryz.underlying28 rfl (by rw [Array.length_toList,hs];kernel_rfl)).trans (by rw [Array.toArray_toList])
  rw [Nat.zero_add,box_cell h j,← Array.getElem?_toList]
  exact hj
theorem stE_box (w:World) (b o:Nat) (v0 v1 v2 v3 v4 v5 v6 v7 v8 v9 v10 v11 v12:Value) (h:w.there b o 13) (hone:v0.oneCell' = true∧v1.oneCell' = true∧v2.oneCell' = true∧v3.oneCell' = true∧v4.oneCell' = true∧v5.oneCell' = true∧v6.oneCell' = true∧v7.oneCell' = true∧v8.oneCell' = true∧v9.oneCell' = true∧v10.oneCell' = true∧v11.oneCell' = true∧v12.oneCell' = true):(stE (.pointer (some ⟨b,o,none⟩)) (.agg #[v0,v1,v2,v3,v4,v5,v6,v7,v8,v9,v10,v11,v12])).run Tryz.prog w = .ok () (w.setCells b o [v0,v1,v2,v3,v4,v5,v6,v7,v8,v9,v10,v11,v12]):=by
  obtain ⟨o0,o1,o2,o3,o4,o5,o6,o7,o8,o9,o10,o11,o12⟩:=hone
  refine run_storeAt_mid w b o 28 #[v0,v1,v2,v3,v4,v5,v6,v7,v8,v9,v10,v11,v12] h (by kernel_rfl) ?_
  refine all_oneCell_toArray (cs:=[v0,v1,v2,v3,v4,v5,v6,v7,v8,v9,v10,v11,v12]) ?_
  intro v hv
  simp only [List.mem_cons,List.not_mem_nil,or_false] at hv
  rcases hv with rfl | rfl | rfl | rfl | rfl | rfl | rfl | rfl | rfl | rfl | rfl | rfl | rfl
  · exact o0
  · exact o1
  · exact o2
  · exact o3
  · exact o4
  · exact o5
  · exact o6
  · exact o7
  · exact o8
  · exact o9
  · exact o10
  · exact o11
  · exact o12
theorem ldC_execI (ro:Option Nat) (ρ:Operand→Value) (d:Option Tmp) (x:Operand) (t:TypeId) (p:String) (af:Array Edge) (g:Option (Nat × Bool)) (w:World):(Oper.semAt ro ρ { dst:=d,op:=.load 23 x,type:=t,pos:=p,after:=af,guard:=g }).run Tryz.prog w = ((ldC (ρ x)).run Tryz.prog w).andThen fun v w'=>.ok (.value v) w':=by
  rw [Oper.semAt_eq _ _ _ (by intro c h;cases h)]
  exact ldC_exec ρ d x t p af g w
theorem stC_execI (ro:Option Nat) (ρ:Operand→Value) (d:Option Tmp) (x y:Operand) (t:TypeId) (p:String) (af:Array Edge) (g:Option (Nat × Bool)) (w:World):(Oper.semAt ro ρ { dst:=d,op:=.store 23 x y,type:=t,pos:=p,after:=af,guard:=g }).run Tryz.prog w = ((stC (ρ x) (ρ y)).run Tryz.prog w).andThen fun _ w'=>.ok .skip w':=by
  rw [Oper.semAt_eq _ _ _ (by intro c h;cases h)]
  exact stC_exec ρ d x y t p af g w
theorem ldW_execI (ro:Option Nat) (ρ:Operand→Value) (d:Option Tmp) (x:Operand) (t:TypeId) (p:String) (af:Array Edge) (g:Option (Nat × Bool)) (w:World):(Oper.semAt ro ρ { dst:=d,op:=.load 32 x,type:=t,pos:=p,after:=af,guard:=g }).run Tryz.prog w = ((ldW (ρ x)).run Tryz.prog w).andThen fun v w'=>.ok (.value v) w':=by
  rw [Oper.semAt_eq _ _ _ (by intro c h;cases h)]
  exact ldW_exec ρ d x t p af g w
theorem stW_execI (ro:Option Nat) (ρ:Operand→Value) (d:Option Tmp) (x y:Operand) (t:TypeId) (p:String) (af:Array Edge) (g:Option (Nat × Bool)) (w:World):(Oper.semAt ro ρ { dst:=d,op:=.store 32 x y,type:=t,pos:=p,after:=af,guard:=g }).run Tryz.prog w = ((stW (ρ x) (ρ y)).run Tryz.prog w).andThen fun _ w'=>.ok .skip w':=by
  rw [Oper.semAt_eq _ _ _ (by intro c h;cases h)]
  exact stW_exec ρ d x y t p af g w
theorem ldW_box (w:World) (b:Nat) (a:Array Value) (t:TypeId) (fr:Nat × Nat) (h:w.heap[b]? = some (.cells a t fr)) (hs:a.size = 19):(ldW (.pointer (some ⟨b,0,none⟩))).run Tryz.prog w = .ok (.agg a) w:=by
  refine (run_loadAt_mid w b 0 32 a.toList _ (fun j v hj=>?_) Tryz.underlying32 rfl (by rw [Array.length_toList,hs];kernel_rfl)).trans (by rw [Array.toArray_toList])
  rw [Nat.zero_add,box_cell h j,← Array.getElem?_toList]
  exact hj
theorem stW_box (w:World) (b o:Nat) (v0 v1 v2 v3 v4 v5 v6 v7 v8 v9 v10 v11 v12 v13 v14 v15 v16 v17 v18:Value) (h:w.there b o 19) (hone:v0.oneCell' = true∧v1.oneCell' = true∧v2.oneCell' = true∧v3.oneCell' = true∧v4.oneCell' = true∧v5.oneCell' = true∧v6.oneCell' = true∧v7.oneCell' = true∧v8.oneCell' = true∧v9.oneCell' = true∧v10.oneCell' = true∧v11.oneCell' = true∧v12.oneCell' = true∧v13.oneCell' = true∧v14.oneCell' = true∧v15.oneCell' = true∧v16.oneCell' = true∧v17.oneCell' = true∧v18.oneCell' = true):(stW (.pointer (some ⟨b,o,none⟩)) (.agg #[v0,v1,v2,v3,v4,v5,v6,v7,v8,v9,v10,v11,v12,v13,v14,v15,v16,v17,v18])).run Tryz.prog w = .ok () (w.setCells b o [v0,v1,v2,v3,v4,v5,v6,v7,v8,v9,v10,v11,v12,v13,v14,v15,v16,v17,v18]):=by
  obtain ⟨o0,o1,o2,o3,o4,o5,o6,o7,o8,o9,o10,o11,o12,o13,o14,o15,o16,o17,o18⟩:=hone
  refine run_storeAt_mid w b o 32 #[v0,v1,v2,v3,v4,v5,v6,v7,v8,v9,v10,v11,v12,v13,v14,v15,v16,v17,v18] h (by kernel_rfl) ?_
  refine all_oneCell_toArray (cs:=[v0,v1,v2,v3,v4,v5,v6,v7,v8,v9,v10,v11,v12,v13,v14,v15,v16,v17,v18]) ?_
  intro v hv
  simp only [List.mem_cons,List.not_mem_nil,or_false] at hv
  rcases hv with rfl | rfl | rfl | rfl | rfl | rfl | rfl | rfl | rfl | rfl | rfl | rfl | rfl | rfl | rfl | rfl | rfl | rfl | rfl
  · exact o0
  · exact o1
  · exact o2
  · exact o3
  · exact o4
  · exact o5
  · exact o6
  · exact o7
  · exact o8
  · exact o9
  · exact o10
  · exact o11
  · exact o12
  · exact o13
  · exact o14
  · exact o15
  · exact o16
  · exact o17
  · exact o18
theorem ldR_execI (ro:Option Nat) (ρ:Operand→Value) (d:Option Tmp) (x:Operand) (t:TypeId) (p:String) (af:Array Edge) (g:Option (Nat × Bool)) (w:World):(Oper.semAt ro ρ { dst:=d,op:=.load 44 x,type:=t,pos:=p,after:=af,guard:=g }).run Tryz.prog w = ((ldR (ρ x)).run Tryz.prog w).andThen fun v w'=>.ok (.value v) w':=by
  rw [Oper.semAt_eq _ _ _ (by intro c h;cases h)]
  exact ldR_exec ρ d x t p af g w
theorem stR_execI (ro:Option Nat) (ρ:Operand→Value) (d:Option Tmp) (x y:Operand) (t:TypeId) (p:String) (af:Array Edge) (g:Option (Nat × Bool)) (w:World):(Oper.semAt ro ρ { dst:=d,op:=.store 44 x y,type:=t,pos:=p,after:=af,guard:=g }).run Tryz.prog w = ((stR (ρ x) (ρ y)).run Tryz.prog w).andThen fun _ w'=>.ok .skip w':=by
  rw [Oper.semAt_eq _ _ _ (by intro c h;cases h)]
  exact stR_exec ρ d x y t p af g w
theorem ldR_box (w:World) (b:Nat) (a:Array Value) (t:TypeId) (fr:Nat × Nat) (h:w.heap[b]? = some (.cells a t fr)) (hs:a.size = 19):(ldR (.pointer (some ⟨b,0,none⟩))).run Tryz.prog w = .ok (.agg a) w:=by
  refine (run_loadAt_mid w b 0 44 a.toList _ (fun j v hj=>?_) Tryz.underlying44 rfl (by rw [Array.length_toList,hs];kernel_rfl)).trans (by rw [Array.toArray_toList])
  rw [Nat.zero_add,box_cell h j,← Array.getElem?_toList]
  exact hj
theorem stR_box (w:World) (b o:Nat) (v0 v1 v2 v3 v4 v5 v6 v7 v8 v9 v10 v11 v12 v13 v14 v15 v16 v17 v18:Value) (h:w.there b o 19) (hone:v0.oneCell' = true∧v1.oneCell' = true∧v2.oneCell' = true∧v3.oneCell' = true∧v4.oneCell' = true∧v5.oneCell' = true∧v6.oneCell' = true∧v7.oneCell' = true∧v8.oneCell' = true∧v9.oneCell' = true∧v10.oneCell' = true∧v11.oneCell' = true∧v12.oneCell' = true∧v13.oneCell' = true∧v14.oneCell' = true∧v15.oneCell' = true∧v16.oneCell' = true∧v17.oneCell' = true∧v18.oneCell' = true):(stR (.pointer (some ⟨b,o,none⟩)) (.agg #[v0,v1,v2,v3,v4,v5,v6,v7,v8,v9,v10,v11,v12,v13,v14,v15,v16,v17,v18])).run Tryz.prog w = .ok () (w.setCells b o [v0,v1,v2,v3,v4,v5,v6,v7,v8,v9,v10,v11,v12,v13,v14,v15,v16,v17,v18]):=by
  obtain ⟨o0,o1,o2,o3,o4,o5,o6,o7,o8,o9,o10,o11,o12,o13,o14,o15,o16,o17,o18⟩:=hone
  refine run_storeAt_mid w b o 44 #[v0,v1,v2,v3,v4,v5,v6,v7,v8,v9,v10,v11,v12,v13,v14,v15,v16,v17,v18] h (by kernel_rfl) ?_
  refine all_oneCell_toArray (cs:=[v0,v1,v2,v3,v4,v5,v6,v7,v8,v9,v10,v11,v12,v13,v14,v15,v16,v17,v18]) ?_
  intro v hv
  simp only [List.mem_cons,List.not_mem_nil,or_false] at hv
  rcases hv with rfl | rfl | rfl | rfl | rfl | rfl | rfl | rfl | rfl | rfl | rfl | rfl | rfl | rfl | rfl | rfl | rfl | rfl | rfl
  · exact o0
  · exact o1
  · exact o2
  · exact o3
  · exact o4
  · exact o5
  · exact o6
  · exact o7
  · exact o8
  · exact o9
  · exact o10
  · exact o11
  · exact o12
  · exact o13
  · exact o14
  · exact o15
  · exact o16
  · exact o17
  · exact o18
theorem ldT_execI (ro:Option Nat) (ρ:Operand→Value) (d:Option Tmp) (x:Operand) (t:TypeId) (p:String) (af:Array Edge) (g:Option (Nat × Bool)) (w:World):(Oper.semAt ro ρ { dst:=d,op:=.load 82 x,type:=t,pos:=p,after:=af,guard:=g }).run Tryz.prog w = ((ldT (ρ x)).run Tryz.prog w).andThen fun v w'=>.ok (.value v) w':=by
  rw [Oper.semAt_eq _ _ _ (by intro c h;cases h)]
  exact ldT_exec ρ d x t p af g w
theorem stT_execI (ro:Option Nat) (ρ:Operand→Value) (d:Option Tmp) (x y:Operand) (t:TypeId) (p:String) (af:Array Edge) (g:Option (Nat × Bool)) (w:World):(Oper.semAt ro ρ { dst:=d,op:=.store 82 x y,type:=t,pos:=p,after:=af,guard:=g }).run Tryz.prog w = ((stT (ρ x) (ρ y)).run Tryz.prog w).andThen fun _ w'=>.ok .skip w':=by
  rw [Oper.semAt_eq _ _ _ (by intro c h;cases h)]
  exact stT_exec ρ d x y t p af g w
theorem ldT_box (w:World) (b:Nat) (a:Array Value) (t:TypeId) (fr:Nat × Nat) (h:w.heap[b]? = some (.cells a t fr)) (hs:a.size = 6):(ldT (.pointer (some ⟨b,0,none⟩))).run Tryz.prog w = .ok (.agg a) w:=by
  refine (run_loadAt_mid w b 0 82 a.toList _ (fun j v hj=>?_) Tryz.underlying82 rfl (by rw [Array.length_toList,hs];kernel_rfl)).trans (by rw [Array.toArray_toList])
  rw [Nat.zero_add,box_cell h j,← Array.getElem?_toList]
  exact hj
theorem ldU_execI (ro:Option Nat) (ρ:Operand→Value) (d:Option Tmp) (x:Operand) (t:TypeId) (p:String) (af:Array Edge) (g:Option (Nat × Bool)) (w:World):(Oper.semAt ro ρ { dst:=d,op:=.load 84 x,type:=t,pos:=p,after:=af,guard:=g }).run Tryz.prog w = ((ldU (ρ x)).run Tryz.prog w).andThen fun v w'=>.ok (.value v) w':=by
  rw [Oper.semAt_eq _ _ _ (by intro c h;cases h)]
  exact ldU_exec ρ d x t p af g w
theorem stU_execI (ro:Option Nat) (ρ:Operand→Value) (d:Option Tmp) (x y:Operand) (t:TypeId) (p:String) (af:Array Edge) (g:Option (Nat × Bool)) (w:World):(Oper.semAt ro ρ { dst:=d,op:=.store 84 x y,type:=t,pos:=p,after:=af,guard:=g }).run Tryz.prog w = ((stU (ρ x) (ρ y)).run Tryz.prog w).andThen fun _ w'=>.ok .skip w':=by
  rw [Oper.semAt_eq _ _ _ (by intro c h;cases h)]
  exact stU_exec ρ d x y t p af g w
theorem ldH_execI (ro:Option Nat) (ρ:Operand→Value) (d:Option Tmp) (x:Operand) (t:TypeId) (p:String) (af:Array Edge) (g:Option (Nat × Bool)) (w:World):(Oper.semAt ro ρ { dst:=d,op:=.load 30 x,type:=t,pos:=p,after:=af,guard:=g }).run Tryz.prog w = ((ldH (ρ x)).run Tryz.prog w).andThen fun v w'=>.ok (.value v) w':=by
  rw [Oper.semAt_eq _ _ _ (by intro c h;cases h)]
  exact ldH_exec ρ d x t p af g w
theorem stH_execI (ro:Option Nat) (ρ:Operand→Value) (d:Option Tmp) (x y:Operand) (t:TypeId) (p:String) (af:Array Edge) (g:Option (Nat × Bool)) (w:World):(Oper.semAt ro ρ { dst:=d,op:=.store 30 x y,type:=t,pos:=p,after:=af,guard:=g }).run Tryz.prog w = ((stH (ρ x) (ρ y)).run Tryz.prog w).andThen fun _ w'=>.ok .skip w':=by
  rw [Oper.semAt_eq _ _ _ (by intro c h;cases h)]
  exact stH_exec ρ d x y t p af g w
theorem ldH_box (w:World) (b:Nat) (a:Array Value) (t:TypeId) (fr:Nat × Nat) (h:w.heap[b]? = some (.cells a t fr)) (hs:a.size = 3):(ldH (.pointer (some ⟨b,0,none⟩))).run Tryz.prog w = .ok (.agg a) w:=by
  refine (run_loadAt_mid w b 0 30 a.toList _ (fun j v hj=>?_) Tryz.underlying30 rfl (by rw [Array.length_toList,hs];kernel_rfl)).trans (by rw [Array.toArray_toList])
  rw [Nat.zero_add,box_cell h j,← Array.getElem?_toList]
  exact hj
theorem stH_box (w:World) (b o:Nat) (v0 v1 v2:Value) (h:w.there b o 3) (hone:v0.oneCell' = true∧v1.oneCell' = true∧v2.oneCell' = true):(stH (.pointer (some ⟨b,o,none⟩)) (.agg #[v0,v1,v2])).run Tryz.prog w = .ok () (w.setCells b o [v0,v1,v2]):=by
  obtain ⟨o0,o1,o2⟩:=hone
  refine run_storeAt_mid w b o 30 #[v0,v1,v2] h (by kernel_rfl) ?_
  refine all_oneCell_toArray (cs:=[v0,v1,v2]) ?_
  intro v hv
  simp only [List.mem_cons,List.not_mem_nil,or_false] at hv
  rcases hv with rfl | rfl | rfl
  · exact o0
  · exact o1
  · exact o2
end Go.Proofs.YtkbbhllchombdaaGreatDoor
