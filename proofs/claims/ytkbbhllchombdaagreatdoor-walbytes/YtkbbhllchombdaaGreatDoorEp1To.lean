import Derived.Test.YtkbbhllchombdaaGreatDoorEq1To
import Derived.Test.YtkbbhllchombdaaGreatDoorEn6To
import Derived.Test.YtkbbhllchombdaaGreatDoorLd
import Derived.Deep.RegionLaw
namespace Go.Proofs.YtkbbhllchombdaaGreatDoor
open Go.RowKit Go.Shelf
attribute [local go_sem ↓] ldE_exec ldE_run stE_exec stE_run ldC_exec ldC_run stC_exec stC_run ldW_exec stW_exec ldR_exec stR_exec ldT_exec stT_exec ldU_exec stU_exec oc_int oc_bool oc_string oc_slice oc_pointer
theorem min_of (x y:Int):(if y < x then y else x) = min x y:=by
  rw [Int.min_def]
  split <;> split <;> omega
theorem min3_run (ts:Array TypeId) (t:TypeId) (x y z:Int) (W:World):(Builtin.min_ ts t #[.int .i64 x,.int .i64 y,.int .i64 z]).run Tryz.prog W = .ok (.int .i64 (min (min x y) z)) W:=by
  simp [Builtin.min_,Builtin.min2,min_of]
set_option maxRecDepth 100000 in
set_option maxHeartbeats 2000000 in
theorem goodHard_any (x:Hard10) (w:World):Calls Tryz.prog 219 #[.agg x.arr] w fun e w'=>e = .returned (.bool (goodH10 x))∧Below w.heap.size w w':=by
  have hb1:Below w.heap.size w (w.alloc (.cells x.arr 30)):=(Below.refl _ _).alloc (Nat.le_refl _) _
  have HG:Hid (goodH10 x = decide (0≤min (min x.t x.v) x.c)):=by
    rw [Hid,Bool.eq_iff_iff]
    unfold goodH10
    simp only [Bool.and_eq_true,decide_eq_true_eq]
    omega
  generalize goodH10 x = r at *
  obtain ⟨ht,hv,hc⟩:=x
  have hm3:=fun ts t W=>min3_run ts t ht hv hc W
  unfold Hard10.arr at *
  dsimp only at *
  go_enter Tryz.func219,Tryz.ntmps219
  generalize min (min ht hv) hc = mm at *
  go_wp2
  go_ret
  rw [HG.out]
  exact ⟨rfl,hb1⟩
theorem readerOf_any (v:Value) (w:World) (h:∃ p n c,v = .slice p n c):Calls Tryz.prog 214 #[v] w fun e w'=>e = .returned (.pointer (some ⟨w.heap.size,0,none⟩))∧w' = w.alloc (.cells #[v,.bool false] 296):=by
  obtain ⟨p,n,c,rfl⟩:=h
  go_enter Tryz.func214,Tryz.ntmps214
  go_wp2
  go_ret
  exact ⟨rfl,rfl⟩
theorem Rdr.make {w0 w:World} {v:Value} {xs:List Int} (hb:Below w0.heap.size w0 w) (hv:Has w0 v xs) (hB:IsB xs) (hl:xs.length≤1073741824) (T:TypeId):Rdr w0 (w.alloc (.cells #[v,.bool false] T)) w.heap.size (xs,false):=by
  have hbox:=heap_alloc_new w (.cells #[v,.bool false] T)
  have hb2:Below w.heap.size w (w.alloc (.cells #[v,.bool false] T)):=(Below.refl _ _).alloc (Nat.le_refl _) _
  refine ⟨⟨v,⟨by simp,hb.size,box_cell hbox 0,box_cell hbox 1,frozen9 hbox 0,frozen9 hbox 1,(hv.inn.below hb (Nat.le_refl _)).below hb2 hb.size⟩⟩,hb.trans (hb2.mono hb.size),(fun h=>by cases h),hB,hl⟩
theorem pent10_in (S:St):inI (pent10 S).1.i∧inI (pent10 S).1.t∧inI (pent10 S).1.k:=by
  rw [pent10_is]
  have h0:=int9_in S
  have h1:=int9_in (int9 S).2
  have h2:=int9_in (int9 (int9 S).2).2
  generalize (int9 S).1 = a at *
  generalize (int9 (int9 S).2).1 = b at *
  generalize (int9 (int9 (int9 S).2).2).1 = c at *
  generalize (int9 (int9 (int9 S).2).2).2 = T at *
  by_cases e2:c = 2
  · rw [e2,ptail10_cmd];rw [e2] at h2;exact ⟨h0,h1,h2⟩
  by_cases e3:c = 3
  · rw [e3,ptail10_conf];rw [e3] at h2;exact ⟨h0,h1,h2⟩
  rw [ptail10_else _ _ _ _ e2 e3]
  exact ⟨h0,h1,h2⟩
structure OwnsE (w:World) (B:Nat) (x:EntV):Prop where
  i:inI x.i
  t:inI x.t
  k:inI x.k
  c:Fits9 x.c
  f:OwnsF w B x.f
theorem OwnsE.fits {w:World} {B:Nat} {x:EntV} (h:OwnsE w B x):FitsE w x:=⟨h.i,h.t,h.k,h.c,h.f.fits⟩
theorem OwnsE.mono {w:World} {B B':Nat} {x:EntV} (h:OwnsE w B x) (hB:B'≤B):OwnsE w B' x:=⟨h.i,h.t,h.k,h.c,h.f.mono hB⟩
theorem OwnsE.kept {w w':World} {B r:Nat} {x:EntV} (h:OwnsE w B x) (hg:w.grownBy w' (some r)) (hr:r < B):OwnsE w' B x:=⟨h.i,h.t,h.k,h.c,h.f.kept hg hr⟩
theorem OwnsE.cell {w:World} {B b:Nat} {x:EntV} (h:OwnsE w B x) (hb:b < B) (i:Nat) (v:Value):OwnsE (w.setCell ⟨b,i,none⟩ v) B x:=h.kept (grown_set w b i v) hb
theorem OwnsE.below {w w':World} {B:Nat} {x:EntV} (h:OwnsE w B x) (hb:Below w.heap.size w w'):OwnsE w' B x:=⟨h.i,h.t,h.k,h.c,h.f.below hb⟩
theorem OwnsE.nil (w:World) (B:Nat):OwnsE w B noEV:=⟨⟨by decide,by decide⟩,⟨by decide,by decide⟩,⟨by decide,by decide⟩,fits_zeroC,OwnsF.nil w B⟩
theorem partE_any (w0 w:World) (rb:Nat) (S:St) (h:Rdr w0 w rb S) :
    Calls Tryz.prog 216 #[.pointer (some ⟨rb,0,none⟩)] w fun e w'=>∃ X:EntV,e = .returned (.agg X.arr)∧X.e = (pent10 S).1∧OwnsE w' w.heap.size X∧Left10 w0 w rb (pent10 S).2 w':=by
  refine (entryR_any w0 w rb S h).mono ?_
  rintro e w' ⟨X,rfl,hX,hO,hC,hL⟩
  have hi:=pent10_in S
  rw [← hX] at hi
  exact ⟨X,rfl,hX,⟨hi.1,hi.2.1,hi.2.2,hC,hO⟩,hL⟩
structure OwnsH (w:World) (B:Nat) (x:Hard10):Prop where
  fits:FitsH x
  here:w.heap.size = w.heap.size∧B = B
theorem OwnsH.mono {w:World} {B B':Nat} {x:Hard10} (h:OwnsH w B x) (_:B'≤B):OwnsH w B' x:=⟨h.fits,rfl,rfl⟩
theorem OwnsH.cell {w:World} {B b:Nat} {x:Hard10} (h:OwnsH w B x) (_:b < B) (i:Nat) (v:Value):OwnsH (w.setCell ⟨b,i,none⟩ v) B x:=⟨h.fits,rfl,rfl⟩
theorem OwnsH.below {w w':World} {B:Nat} {x:Hard10} (h:OwnsH w B x) (_:Below w.heap.size w w'):OwnsH w' B x:=⟨h.fits,rfl,rfl⟩
def noH10:Hard10:=⟨0,0,0⟩
def Hard10.e (x:Hard10):Hard10:=x
theorem OwnsH.nil (w:World) (B:Nat):OwnsH w B noH10:=⟨⟨⟨by decide,by decide⟩,⟨by decide,by decide⟩,⟨by decide,by decide⟩⟩,rfl,rfl⟩
theorem partH_any (w0 w:World) (rb:Nat) (S:St) (h:Rdr w0 w rb S) :
    Calls Tryz.prog 218 #[.pointer (some ⟨rb,0,none⟩)] w fun e w'=>∃ X:Hard10,e = .returned (.agg X.arr)∧X.e = (hard10 S).1∧OwnsH w' w.heap.size X∧Left10 w0 w rb (hard10 S).2 w':=by
  refine (hardR_any w0 w rb S h).mono ?_
  rintro e w' ⟨rfl,hL⟩
  exact ⟨(hard10 S).1,rfl,rfl,⟨by rw [hard10_is];exact ⟨int9_in _,int9_in _,int9_in _⟩,rfl,rfl⟩,hL⟩
set_option maxRecDepth 100000 in
set_option maxHeartbeats 4000000 in
theorem wholeH_any (w0 w:World) (rb:Nat) (S:St) (h:Rdr w0 w rb S) :
    Calls Tryz.prog 217 #[.pointer (some ⟨rb,0,none⟩),.func (.func 218) #[.pointer (some ⟨rb,0,none⟩)] #[],.func (.func 219) #[] #[]] w fun e w'=>∃ X:Hard10,e = .returned (.tuple #[.agg X.arr,.int .i64 (whole10 goodH10 noH10 (hard10 S)).2])∧X.e = (whole10 goodH10 noH10 (hard10 S)).1∧OwnsH w' w.heap.size X∧Below w0.heap.size w0 w'∧w.grownBy w' (some rb):=by
  have hb1:Below w.heap.size w (w.alloc (.cells #[.int .i64 0,.int .i64 0,.int .i64 0] 30)):=(Below.refl _ _).alloc (Nat.le_refl _) _
  have hbox:HardAt (w.alloc (.cells #[.int .i64 0,.int .i64 0,.int .i64 0] 30)) w.heap.size noH10:=heap_alloc_new w _
  have hz1:(w.alloc (.cells #[.int .i64 0,.int .i64 0,.int .i64 0] 30)).heap.size = w.heap.size + 1:=by simp
  have hrl:=h.lt
  have k1:=partH_any w0 _ rb S (h.more hb1)
  have HW0:Hid (whole10 goodH10 noH10 (hard10 S) = if ((hard10 S).2.1.isEmpty && !(hard10 S).2.2) && goodH10 (hard10 S).1 then ((hard10 S).1,0) else (noH10,8)):=rfl
  generalize whole10 goodH10 noH10 (hard10 S) = R at *
  generalize hard10 S = A at *
  obtain ⟨x0,S1⟩:=A
  dsimp only at k1 HW0
  clear h
  go_enter Tryz.func217,Tryz.ntmps217
  go_wp2_with fail
  generalize w.alloc (.cells #[.int .i64 0,.int .i64 0,.int .i64 0] 30) = W1 at *
  refine k1.mono ?_
  rintro _ w2 ⟨X,rfl,hX,hM,hR2,hg2⟩
  have hbox2:HardAt w2 w.heap.size noH10:=grown_box hg2 hbox (by omega)
  have hG2:=grown_after hb1 hg2
  have hsz2:=hg2.size
  have hb3:Below w2.heap.size w2 (w2.alloc (.cells X.arr 30)):=(Below.refl _ _).alloc (Nat.le_refl _) _
  have hbn3:HardAt (w2.alloc (.cells X.arr 30)) w2.heap.size X:=heap_alloc_new w2 _
  have hbox3:=box_below hbox2 hb3
  have hR3:=hR2.more hb3
  have hG3:=grown_trans hG2 (below_grownBy hb3)
  have hM3:=hM.below hb3
  have kg:Calls Tryz.prog 219 #[.agg X.arr] (w2.alloc (.cells X.arr 30)) fun e w'=>e = .returned (.bool (goodH10 X.e))∧Below (w2.alloc (.cells X.arr 30)).heap.size (w2.alloc (.cells X.arr 30)) w':=(fun W _=>goodHard_any X W) _ hM3.fits
  have kf:=hR3.fin
  have HX:Hid (X.e = x0):=hX
  rw [hX] at kg
  clear k1 hbox hR2 hg2 hbox2 hG2 hb3 hM hX
  generalize hgx:goodH10 x0 = gx at *
  have HGX:Hid (goodH10 x0 = gx):=hgx
  clear hgx
  obtain ⟨ht,hv,hc⟩:=X
  unfold Hard10.arr at *
  dsimp only at *
  go_wp2_with fail
  generalize w2.alloc (.cells #[.int .i64 ht,.int .i64 hv,.int .i64 hc] 30) = W3 at *
  generalize w2.heap.size = bx at *
  generalize hfi:(S1.1.isEmpty && !S1.2) = fi at *
  cases fi with
  | false =>
    have HW:Hid (R = (noH10,8)):=by rw [Hid,HW0.out];rfl
    clear HW0
    refine same_mono kf ?_
    have hbn:Below W3.heap.size W3 (W3.alloc (.cells #[.int .i64 0,.int .i64 0,.int .i64 0] 30)):=(Below.refl _ _).alloc (Nat.le_refl _) _
    have hbx:HardAt (W3.alloc (.cells #[.int .i64 0,.int .i64 0,.int .i64 0] 30)) w.heap.size noH10:=box_below hbox3 hbn
    have hnn:HardAt (W3.alloc (.cells #[.int .i64 0,.int .i64 0,.int .i64 0] 30)) W3.heap.size noH10:=heap_alloc_new W3 _
    have hRn:=hR3.more hbn
    have hGn:=grown_trans hG3 (below_grownBy hbn)
    have d0:=box_cell hbx 0
    have d1:=box_cell hbx 1
    have d2:=box_cell hbx 2
    have fb:=frozen9 hbx
    have hlr:=box_lt hbx
    have e0:=box_cell hnn 0
    have e1:=box_cell hnn 1
    have e2:=box_cell hnn 2
    have hln:=box_lt hnn
    have hMn:=OwnsH.nil (W3.alloc (.cells #[.int .i64 0,.int .i64 0,.int .i64 0] 30)) (w.heap.size + 1)
    dsimp only [Hard10.arr,noH10] at d0 d1 d2 e0 e1 e2
    go_upto_region 4 with fail
    generalize W3.alloc (.cells #[.int .i64 0,.int .i64 0,.int .i64 0] 30) = W9 at *
    generalize W3.heap.size = nb at *
    go_wp2
    have hF:=fillH (b:=w.heap.size) (x0:=noH10) hbx 0 0 0
    have hR9:=((((((hRn).cell (b:=w.heap.size) (by omega) (by omega) 0 (.int .i64 0))).cell (b:=w.heap.size) (by omega) (by omega) 1 (.int .i64 0))).cell (b:=w.heap.size) (by omega) (by omega) 2 (.int .i64 0))
    have hG9:=(grown_new (b:=w.heap.size) (grown_new (b:=w.heap.size) (grown_new (b:=w.heap.size) hGn (by omega) 0 (.int .i64 0)) (by omega) 1 (.int .i64 0)) (by omega) 2 (.int .i64 0))
    have hO9:=((((((hMn).cell (b:=w.heap.size) (by omega) 0 (.int .i64 0))).cell (b:=w.heap.size) (by omega) 1 (.int .i64 0))).cell (b:=w.heap.size) (by omega) 2 (.int .i64 0))
    refine bodyPost_ret (ret_cell9 rfl _ _ w.heap.size _ _ _ _ rfl hF Tryz.underlying30 rfl (by kernel_rfl)) rfl ⟨noH10,?_,?_,hO9.mono (by omega),hR9.bel,hG9⟩
    · rw [HW.out];rfl
    · rw [HW.out];rfl
  | true =>
    refine same_mono kf ?_
    clear kf
    replace hbn3:HardAt W3 bx ⟨ht,hv,hc⟩:=hbn3
    have c0:=box_cell hbn3 0
    have c1:=box_cell hbn3 1
    have c2:=box_cell hbn3 2
    have hlx:=box_lt hbn3
    dsimp only [Hard10.arr] at c0 c1 c2
    go_wp2_with fail
    refine kg.mono ?_
    rintro _ w4 ⟨rfl,hb4⟩
    have hbx4:HardAt w4 bx ⟨ht,hv,hc⟩:=box_below hbn3 hb4
    have hbox4:HardAt w4 w.heap.size noH10:=box_below hbox3 hb4
    have hR4:=hR3.more hb4
    have hG4:=grown_trans hG3 (below_grownBy hb4)
    have hM4:=hM3.below hb4
    clear kg hbn3 hbox3 hR3 hG3 hM3 hb4 c0 c1 c2 hlx
    cases gx with
    | false =>
      have HW:Hid (R = (noH10,8)):=by rw [Hid,HW0.out];rfl
      clear HW0
      have hbn:Below w4.heap.size w4 (w4.alloc (.cells #[.int .i64 0,.int .i64 0,.int .i64 0] 30)):=(Below.refl _ _).alloc (Nat.le_refl _) _
      have hbx:HardAt (w4.alloc (.cells #[.int .i64 0,.int .i64 0,.int .i64 0] 30)) w.heap.size noH10:=box_below hbox4 hbn
      have hnn:HardAt (w4.alloc (.cells #[.int .i64 0,.int .i64 0,.int .i64 0] 30)) w4.heap.size noH10:=heap_alloc_new w4 _
      have hRn:=hR4.more hbn
      have hGn:=grown_trans hG4 (below_grownBy hbn)
      have d0:=box_cell hbx 0
      have d1:=box_cell hbx 1
      have d2:=box_cell hbx 2
      have fb:=frozen9 hbx
      have hlr:=box_lt hbx
      have e0:=box_cell hnn 0
      have e1:=box_cell hnn 1
      have e2:=box_cell hnn 2
      have hln:=box_lt hnn
      have hMn:=OwnsH.nil (w4.alloc (.cells #[.int .i64 0,.int .i64 0,.int .i64 0] 30)) (w.heap.size + 1)
      dsimp only [Hard10.arr,noH10] at d0 d1 d2 e0 e1 e2
      go_upto_region 4 with fail
      generalize w4.alloc (.cells #[.int .i64 0,.int .i64 0,.int .i64 0] 30) = W9 at *
      generalize w4.heap.size = nb at *
      go_wp2
      have hF:=fillH (b:=w.heap.size) (x0:=noH10) hbx 0 0 0
      have hR9:=((((((hRn).cell (b:=w.heap.size) (by omega) (by omega) 0 (.int .i64 0))).cell (b:=w.heap.size) (by omega) (by omega) 1 (.int .i64 0))).cell (b:=w.heap.size) (by omega) (by omega) 2 (.int .i64 0))
      have hG9:=(grown_new (b:=w.heap.size) (grown_new (b:=w.heap.size) (grown_new (b:=w.heap.size) hGn (by omega) 0 (.int .i64 0)) (by omega) 1 (.int .i64 0)) (by omega) 2 (.int .i64 0))
      have hO9:=((((((hMn).cell (b:=w.heap.size) (by omega) 0 (.int .i64 0))).cell (b:=w.heap.size) (by omega) 1 (.int .i64 0))).cell (b:=w.heap.size) (by omega) 2 (.int .i64 0))
      refine bodyPost_ret (ret_cell9 rfl _ _ w.heap.size _ _ _ _ rfl hF Tryz.underlying30 rfl (by kernel_rfl)) rfl ⟨noH10,?_,?_,hO9.mono (by omega),hR9.bel,hG9⟩
      · rw [HW.out];rfl
      · rw [HW.out];rfl
    | true =>
      have HW:Hid (R = (x0,0)):=by rw [Hid,HW0.out];rfl
      clear HW0
      have c0:=box_cell hbx4 0
      have c1:=box_cell hbx4 1
      have c2:=box_cell hbx4 2
      have d0:=box_cell hbox4 0
      have d1:=box_cell hbox4 1
      have d2:=box_cell hbox4 2
      dsimp only [Hard10.arr,noH10] at c0 c1 c2 d0 d1 d2
      have hlx:=box_lt hbx4
      have hlr:=box_lt hbox4
      have fb:=frozen9 hbox4
      go_wp2
      have hF:=fillH (b:=w.heap.size) (x0:=noH10) hbox4 ht hv hc
      have hR9:=((((((hR4).cell (b:=w.heap.size) (by omega) (by omega) 0 (.int .i64 ht))).cell (b:=w.heap.size) (by omega) (by omega) 1 (.int .i64 hv))).cell (b:=w.heap.size) (by omega) (by omega) 2 (.int .i64 hc))
      have hG9:=(grown_new (b:=w.heap.size) (grown_new (b:=w.heap.size) (grown_new (b:=w.heap.size) hG4 (by omega) 0 (.int .i64 ht)) (by omega) 1 (.int .i64 hv)) (by omega) 2 (.int .i64 hc))
      have hO9:=((((((hM4).cell (b:=w.heap.size) (by omega) 0 (.int .i64 ht))).cell (b:=w.heap.size) (by omega) 1 (.int .i64 hv))).cell (b:=w.heap.size) (by omega) 2 (.int .i64 hc))
      refine bodyPost_ret (ret_cell9 rfl _ _ w.heap.size _ _ _ _ rfl hF Tryz.underlying30 rfl (by kernel_rfl)) rfl ⟨⟨ht,hv,hc⟩,?_,?_,hO9.mono (by omega),hR9.bel,hG9⟩
      · rw [HW.out];rfl
      · rw [HW.out];exact HX.out
set_option maxRecDepth 100000 in
set_option maxHeartbeats 4000000 in
theorem readH_any (v:Value) (xs:List Int) (w:World) (hv:Has w v xs) (hB:IsB xs) (hl:xs.length≤1073741824) :
    Calls Tryz.prog 168 #[v] w fun e w'=>∃ X:Hard10,e = .returned (.tuple #[.agg X.arr,.int .i64 (whole10 goodH10 noH10 (hard10 (xs,false))).2])∧X.e = (whole10 goodH10 noH10 (hard10 (xs,false))).1∧FitsH X∧Below w.heap.size w w':=by
  have hmf:∀ (fn:Fn) (first cap:Array Value) (w:World),(Instr.makeFunc fn first cap).run Tryz.prog w = .ok (.func fn first cap) w:=fun _ _ _ _=>rfl
  have hb1:Below w.heap.size w (w.alloc (.cells #[.int .i64 0,.int .i64 0,.int .i64 0] 30)):=(Below.refl _ _).alloc (Nat.le_refl _) _
  have hbox:HardAt (w.alloc (.cells #[.int .i64 0,.int .i64 0,.int .i64 0] 30)) w.heap.size noH10:=heap_alloc_new w _
  have hz1:(w.alloc (.cells #[.int .i64 0,.int .i64 0,.int .i64 0] 30)).heap.size = w.heap.size + 1:=by simp
  have hR:=Rdr.make hb1 hv hB hl 296
  have hsl:∃ p n c,v = .slice p n c:=by
    obtain ⟨p,c,hp,-⟩:=hv
    exact ⟨p,_,c,hp⟩
  have k1:=readerOf_any v (w.alloc (.cells #[.int .i64 0,.int .i64 0,.int .i64 0] 30)) hsl
  have hb2:Below (w.alloc (.cells #[.int .i64 0,.int .i64 0,.int .i64 0] 30)).heap.size (w.alloc (.cells #[.int .i64 0,.int .i64 0,.int .i64 0] 30)) ((w.alloc (.cells #[.int .i64 0,.int .i64 0,.int .i64 0] 30)).alloc (.cells #[v,.bool false] 296)):=(Below.refl _ _).alloc (Nat.le_refl _) _
  have hbox2:HardAt _ w.heap.size noH10:=box_below hbox hb2
  have hwz:w.heap.size < ((w.alloc (.cells #[.int .i64 0,.int .i64 0,.int .i64 0] 30)).alloc (.cells #[v,.bool false] 296)).heap.size:=by simp;omega
  have k2:=wholeH_any w _ _ (xs,false) hR
  generalize whole10 goodH10 noH10 (hard10 (xs,false)) = R at *
  obtain ⟨x0,err⟩:=R
  dsimp only at k2
  obtain ⟨p0,n0,c0_,rfl⟩:=hsl
  rw [hz1] at k2 k1
  clear hR hv hB hbox hb2
  go_enter Tryz.func168,Tryz.ntmps168
  go_wp2_with fail
  refine k1.mono ?_
  rintro _ w2 ⟨rfl,rfl⟩
  clear k1
  go_wp2_with fail
  generalize (w.alloc (.cells #[.int .i64 0,.int .i64 0,.int .i64 0] 30)).alloc (.cells #[.slice p0 n0 c0_,.bool false] 296) = W2 at *
  refine k2.mono ?_
  rintro _ w3 ⟨X,rfl,hX,hM,hb3,hg3⟩
  have hbox3:HardAt w3 w.heap.size noH10:=grown_box hg3 hbox2 (by omega)
  have HX:Hid (X.e = x0):=hX
  clear k2 hbox2 hX
  obtain ⟨ht,hv,hc⟩:=X
  unfold Hard10.arr
  dsimp only
  have d0:=box_cell hbox3 0
  have d1:=box_cell hbox3 1
  have d2:=box_cell hbox3 2
  dsimp only [Hard10.arr,noH10] at d0 d1 d2
  have hlr:=box_lt hbox3
  have fb:=frozen9 hbox3
  go_wp2
  have hF:=fillH (b:=w.heap.size) (x0:=noH10) hbox3 ht hv hc
  have hO9:=((((((hM).cell (b:=w.heap.size) (by omega) 0 (.int .i64 ht))).cell (b:=w.heap.size) (by omega) 1 (.int .i64 hv))).cell (b:=w.heap.size) (by omega) 2 (.int .i64 hc))
  have hB9:Below w.heap.size w _:=(((hb3.setCell (p:=⟨w.heap.size,0,none⟩) (Nat.le_refl _) (.int .i64 ht)).setCell (p:=⟨w.heap.size,1,none⟩) (Nat.le_refl _) (.int .i64 hv)).setCell (p:=⟨w.heap.size,2,none⟩) (Nat.le_refl _) (.int .i64 hc))
  exact bodyPost_ret (ret_cell9 rfl _ _ w.heap.size _ _ _ _ rfl hF Tryz.underlying30 rfl (by kernel_rfl)) rfl ⟨⟨ht,hv,hc⟩,rfl,HX.out,hO9.fits,hB9⟩
theorem Rdr.off {w0 w:World} {rb:Nat} {S:St} (h:Rdr w0 w rb S):Left10 w0 w rb ([],true) ((w.setCell ⟨rb,1,none⟩ (.bool true)).setCell ⟨rb,0,none⟩ (.slice none 0 0)):=by
  obtain ⟨v,hv⟩:=h.rd
  have hg:=grown_trans (grown_set w rb 1 (.bool true)) (grown_set (w.setCell ⟨rb,1,none⟩ (.bool true)) rb 0 (.slice none 0 0))
  exact ⟨h.grow ⟨_,(hv.setW true).setB (HasIn.nil _ _)⟩ hg (fun _=>rfl) IsB.nil (Nat.zero_le _),hg⟩
theorem tail10_cmd (m i t:Int) (S:St):tail10 m i t 2 S = (⟨i,t,2,(readC9 (byt10 S).1).1,noF10⟩,if (readC9 (byt10 S).1).2 = 0 then (byt10 S).2 else ([],true)):=by
  unfold tail10 bindR holdR retR
  rw [if_pos rfl]
  dsimp only
  by_cases h:(readC9 (byt10 S).1).2 = 0
  · rw [if_pos h,decide_eq_true h];rfl
  · rw [if_neg h,decide_eq_false h];rfl
theorem tail10_conf (m i t:Int):tail10 m i t 3 = bindR (conf10 m) fun f=>retR ⟨i,t,3,zeroC9,f⟩:=by
  unfold tail10
  rw [if_neg (by decide),if_pos rfl]
theorem tail10_else (m i t k:Int) (S:St) (h2:k ≠ 2) (h3:k ≠ 3):tail10 m i t k S = (⟨i,t,k,zeroC9,noF10⟩,S):=by
  unfold tail10 retR
  rw [if_neg h2,if_neg h3]
def TellsE (w0 w:World) (rb:Nat) (R:Ent10 × St) (e:Ending) (w':World):Prop:=∃ (X:EntV) (S':St),e = .returned (.agg X.arr)∧OwnsE w' w.heap.size X∧Tell10 R X.e S'∧Left10 w0 w rb S' w'
theorem ent10_is {m:Int} {S0 S1 S2 S3:St} {i t k:Int} (e0:int9 S0 = (i,S1)) (e1:int9 S1 = (t,S2)) (e2:int9 S2 = (k,S3)):ent10 m S0 = tail10 m i t k S3:=by
  unfold ent10
  rw [bindR_eq e0,bindR_eq e1,bindR_eq e2]
set_option maxRecDepth 100000 in
set_option maxHeartbeats 8000000 in
theorem rentryR_any (w0 w:World) (rb:Nat) (S0:St) (h:Rdr w0 w rb S0) :
    Calls Tryz.prog 171 #[.pointer (some ⟨rb,0,none⟩)] w (TellsE w0 w rb (ent10 1000000 S0)):=by
  have h0:RdX w0 w _ rb S0 28 #[.int .i64 0,.int .i64 0,.int .i64 0,.int .i64 0,.int .i64 0,.int .i64 0,.string em9,.string em9,.string em9,.string em9,.int .i64 0,.slice none 0 0,.slice none 0 0] #[.int .i64 0,.int .i64 0,.int .i64 0,.int .i64 0,.int .i64 0,.int .i64 0,.string em9,.string em9,.string em9,.string em9,.int .i64 0,.slice none 0 0,.slice none 0 0]:=RdX.new h 28 #[.int .i64 0,.int .i64 0,.int .i64 0,.int .i64 0,.int .i64 0,.int .i64 0,.string em9,.string em9,.string em9,.string em9,.int .i64 0,.slice none 0 0,.slice none 0 0]
  have hrl:=h.lt
  clear h
  generalize hR:ent10 1000000 S0 = R
  have HR:Hid (ent10 1000000 S0 = R):=hR
  clear hR
  go_enter Tryz.func171,Tryz.ntmps171
  have ki0:=h0.r.rint
  have HI0:Hid (inI (int9 S0).1):=int9_in _
  go_wp2_with fail
  refine ki0.mono ?_
  rintro _ y0 ⟨rfl,hl0⟩
  have g0:=h0.left hl0
  clear h0 ki0 hl0
  generalize hA:int9 S0 = A at *
  obtain ⟨z0,S1⟩:=A
  have E0:Hid (int9 S0 = (z0,S1)):=hA
  clear hA
  dsimp only at g0 HI0
  have c0:=box_cell g0.box 0
  have fb:=frozen9 g0.box
  have hlb:=box_lt g0.box
  go_upto_region 3 with fail
  have h1:RdX w0 w _ rb S1 28 #[.int .i64 z0,.int .i64 0,.int .i64 0,.int .i64 0,.int .i64 0,.int .i64 0,.string em9,.string em9,.string em9,.string em9,.int .i64 0,.slice none 0 0,.slice none 0 0] #[.int .i64 0,.int .i64 0,.int .i64 0,.int .i64 0,.int .i64 0,.int .i64 0,.string em9,.string em9,.string em9,.string em9,.int .i64 0,.slice none 0 0,.slice none 0 0]:=g0.put 0 (.int .i64 z0) (by show 0 < 13;omega)
  clear g0 c0 fb hlb
  generalize y0.setCell ⟨w.heap.size + 1,0,none⟩ (.int .i64 z0) = X0 at *
  have ki1:=h1.r.rint
  have HI1:Hid (inI (int9 S1).1):=int9_in _
  go_wp2_with fail
  refine ki1.mono ?_
  rintro _ y1 ⟨rfl,hl1⟩
  have g1:=h1.left hl1
  clear h1 ki1 hl1
  generalize hA:int9 S1 = A at *
  obtain ⟨z1,S2⟩:=A
  have E1:Hid (int9 S1 = (z1,S2)):=hA
  clear hA
  dsimp only at g1 HI1
  have c1:=box_cell g1.box 1
  have fb:=frozen9 g1.box
  have hlb:=box_lt g1.box
  go_upto_region 4 with fail
  have h2:RdX w0 w _ rb S2 28 #[.int .i64 z0,.int .i64 z1,.int .i64 0,.int .i64 0,.int .i64 0,.int .i64 0,.string em9,.string em9,.string em9,.string em9,.int .i64 0,.slice none 0 0,.slice none 0 0] #[.int .i64 0,.int .i64 0,.int .i64 0,.int .i64 0,.int .i64 0,.int .i64 0,.string em9,.string em9,.string em9,.string em9,.int .i64 0,.slice none 0 0,.slice none 0 0]:=g1.put 1 (.int .i64 z1) (by show 1 < 13;omega)
  clear g1 c1 fb hlb
  generalize y1.setCell ⟨w.heap.size + 1,1,none⟩ (.int .i64 z1) = X1 at *
  have ki2:=h2.r.rint
  have HI2:Hid (inI (int9 S2).1):=int9_in _
  go_wp2_with fail
  refine ki2.mono ?_
  rintro _ y2 ⟨rfl,hl2⟩
  have g2:=h2.left hl2
  clear h2 ki2 hl2
  generalize hA:int9 S2 = A at *
  obtain ⟨z2,S3⟩:=A
  have E2:Hid (int9 S2 = (z2,S3)):=hA
  clear hA
  dsimp only at g2 HI2
  have c2:=box_cell g2.box 2
  have fb:=frozen9 g2.box
  have hlb:=box_lt g2.box
  go_upto_region 5 with fail
  have h3:RdX w0 w _ rb S3 28 #[.int .i64 z0,.int .i64 z1,.int .i64 z2,.int .i64 0,.int .i64 0,.int .i64 0,.string em9,.string em9,.string em9,.string em9,.int .i64 0,.slice none 0 0,.slice none 0 0] #[.int .i64 0,.int .i64 0,.int .i64 0,.int .i64 0,.int .i64 0,.int .i64 0,.string em9,.string em9,.string em9,.string em9,.int .i64 0,.slice none 0 0,.slice none 0 0]:=g2.put 2 (.int .i64 z2) (by show 2 < 13;omega)
  clear g2 c2 fb hlb
  generalize y2.setCell ⟨w.heap.size + 1,2,none⟩ (.int .i64 z2) = X2 at *
  have HC:Hid (R = tail10 1000000 z0 z1 z2 S3):=HR.out.symm.trans (ent10_is E0.out E1.out E2.out)
  clear E0 E1 E2 HR
  have c2:=box_cell h3.box 2
  have hlb:=box_lt h3.box
  have hws:=h3.g.size
  by_cases e2:z2 = 2
  · have HT0:Hid (R = (⟨z0,z1,2,(readC9 (byt10 S3).1).1,noF10⟩,if (readC9 (byt10 S3).1).2 = 0 then (byt10 S3).2 else ([],true))):=by rw [Hid,HC.out,e2,tail10_cmd]
    subst e2
    clear HC
    have kt:=h3.r.rtext
    have HB:Hid (IsB (byt10 S3).1):=byt10_isB h3.r.isb
    have hlen:(byt10 S3).1.length≤1073741824:=Nat.le_trans (byt10_len S3) h3.r.len
    have kr:Hid (∀ W v,Has W v (byt10 S3).1→Calls Tryz.prog 220 #[v] W fun e w'=>e = .returned (.tuple #[.agg (readC9 (byt10 S3).1).1.arr,.int .i64 (readC9 (byt10 S3).1).2])∧Below W.heap.size W w'):=fun W v hv=>rreadC_any v _ W hv HB.out (by omega)
    have HTx:Hid (strB (strOfNums (byt10 S3).1) = (byt10 S3).1):=strB_of HB.out
    have HFit:Hid (Fits9 (readC9 (byt10 S3).1).1):=readC9_fits _ (by omega)
    generalize byt10 S3 = A at *
    obtain ⟨xs,S4⟩:=A
    dsimp only at kt kr HB HTx HFit HT0 hlen
    generalize readC9 xs = RC at *
    obtain ⟨⟨ck,cs,cq,ckey,cold,cval,cunt,clim⟩,err⟩:=RC
    generalize strOfNums xs = sx at *
    unfold Cmd9.arr at kr
    dsimp only at kr HFit HT0
    clear hlen HB
    go_wp2_with fail
    refine kt.mono ?_
    rintro _ w4 ⟨rfl,hl4⟩
    have h4:=h3.left hl4
    have hcv:=Lib.run_convert_string_bytes (P:=Tryz.prog) w4 9 33 5 sx (u:=.string) Tryz.underlying9 Tryz.underlying33 Tryz.underlying5
    obtain ⟨hH,hb5⟩:=bytes_has w4 sx
    rw [HTx.out] at hH
    have h5:=h4.more hb5
    have k5:=kr.out _ _ hH
    clear kt h3 hl4 h4 hH hb5 c2 hlb kr HTx
    generalize Lib.bytesWorld w4 5 sx = W5 at *
    generalize grownCap w4 sx.size 0 5 = gc at *
    go_wp2_with fail
    refine k5.mono ?_
    rintro _ w6 ⟨rfl,hb6⟩
    have hb7:Below w6.heap.size w6 (w6.alloc (.cells (Cmd9.mk ck cs cq ckey cold cval cunt clim).arr 23)):=(Below.refl _ _).alloc (Nat.le_refl _) _
    have hbn:CmdAt (w6.alloc (.cells (Cmd9.mk ck cs cq ckey cold cval cunt clim).arr 23)) w6.heap.size ⟨ck,cs,cq,ckey,cold,cval,cunt,clim⟩:=heap_alloc_new w6 _
    have h7:=(h5.more hb6).more hb7
    have hlb6:=box_lt (h5.more hb6).box
    unfold Cmd9.arr at hb7 hbn h7
    dsimp only at hb7 hbn h7
    clear k5 h5 hb6 hb7 hcv
    go_upto_region 7 with fail
    generalize w6.alloc (.cells #[.int .i64 ck,.int .i64 cs,.int .i64 cq,.string ckey,.string cold,.string cval,.string cunt,.int .i64 clim] 23) = W7 at *
    replace hbn:CmdAt W7 w6.heap.size ⟨ck,cs,cq,ckey,cold,cval,cunt,clim⟩:=hbn
    generalize w6.heap.size = bn at *
    by_cases e0:err = 0
    · have HT:Hid (Tell10 R ⟨z0,z1,2,⟨ck,cs,cq,ckey,cold,cval,cunt,clim⟩,noF10⟩ S4):=by
        refine Or.inl ?_
        rw [HT0.out,if_pos e0]
      subst e0
      have h8:=h7
      have hW8:W7 = W7:=rfl
      revert h8 hbn
      generalize W7 = W8
      intro hbn h8
      clear hW8 h7 HT0
      have c2:=box_cell h8.box 2
      have c3:=box_cell h8.box 3
      have c4:=box_cell h8.box 4
      have c5:=box_cell h8.box 5
      have c6:=box_cell h8.box 6
      have c7:=box_cell h8.box 7
      have c8:=box_cell h8.box 8
      have c9:=box_cell h8.box 9
      have c10:=box_cell h8.box 10
      have fb:=frozen9 h8.box
      have hlb:=box_lt h8.box
      obtain ⟨q0,q1,q2,q3,q4,q5,q6,q7⟩:=hbn.cells
      dsimp only at q0 q1 q2 q3 q4 q5 q6 q7
      have hlq:=box_lt hbn
      go_upto_region 13 with fail
      have hx:RdX w0 w _ rb S4 28 #[.int .i64 z0,.int .i64 z1,.int .i64 2,.int .i64 ck,.int .i64 cs,.int .i64 cq,.string ckey,.string cold,.string cval,.string cunt,.int .i64 clim,.slice none 0 0,.slice none 0 0] #[.int .i64 0,.int .i64 0,.int .i64 0,.int .i64 0,.int .i64 0,.int .i64 0,.string em9,.string em9,.string em9,.string em9,.int .i64 0,.slice none 0 0,.slice none 0 0]:=((((((((h8.put 3 (.int .i64 ck) (by show 3 < 13;omega)).put 4 (.int .i64 cs) (by show 4 < 13;omega)).put 5 (.int .i64 cq) (by show 5 < 13;omega)).put 6 (.string ckey) (by show 6 < 13;omega)).put 7 (.string cold) (by show 7 < 13;omega)).put 8 (.string cval) (by show 8 < 13;omega)).put 9 (.string cunt) (by show 9 < 13;omega)).put 10 (.int .i64 clim) (by show 10 < 13;omega))
      clear h8 c2 c3 c4 c5 c6 c7 c8 c9 c10 fb hlb q0 q1 q2 q3 q4 q5 q6 q7 hlq hbn
      generalize ((((((((W8.setCell ⟨w.heap.size + 1,3,none⟩ (.int .i64 ck)).setCell ⟨w.heap.size + 1,4,none⟩ (.int .i64 cs)).setCell ⟨w.heap.size + 1,5,none⟩ (.int .i64 cq)).setCell ⟨w.heap.size + 1,6,none⟩ (.string ckey)).setCell ⟨w.heap.size + 1,7,none⟩ (.string cold)).setCell ⟨w.heap.size + 1,8,none⟩ (.string cval)).setCell ⟨w.heap.size + 1,9,none⟩ (.string cunt)).setCell ⟨w.heap.size + 1,10,none⟩ (.int .i64 clim)) = X6 at *
      have hO:OwnsE X6 (w.heap.size + 1) ⟨z0,z1,2,⟨ck,cs,cq,ckey,cold,cval,cunt,clim⟩,noFV⟩:=⟨HI0.out,HI1.out,⟨(by decide:(-9223372036854775808:Int)≤2),(by decide:(2:Int)≤9223372036854775807)⟩,HFit.out,OwnsF.nil _ _⟩
      have c0:=box_cell hx.box 0
      have c1:=box_cell hx.box 1
      have c2:=box_cell hx.box 2
      have c3:=box_cell hx.box 3
      have c4:=box_cell hx.box 4
      have c5:=box_cell hx.box 5
      have c6:=box_cell hx.box 6
      have c7:=box_cell hx.box 7
      have c8:=box_cell hx.box 8
      have c9:=box_cell hx.box 9
      have c10:=box_cell hx.box 10
      have c11:=box_cell hx.box 11
      have c12:=box_cell hx.box 12
      have d0:=box_cell hx.res 0
      have d1:=box_cell hx.res 1
      have d2:=box_cell hx.res 2
      have d3:=box_cell hx.res 3
      have d4:=box_cell hx.res 4
      have d5:=box_cell hx.res 5
      have d6:=box_cell hx.res 6
      have d7:=box_cell hx.res 7
      have d8:=box_cell hx.res 8
      have d9:=box_cell hx.res 9
      have d10:=box_cell hx.res 10
      have d11:=box_cell hx.res 11
      have d12:=box_cell hx.res 12
      have fb:=frozen9 hx.res
      have hlb:=box_lt hx.box
      have hlr:=box_lt hx.res
      go_wp2
      have hF:=fillE (b:=w.heap.size) (x0:=noEV) hx.res z0 z1 2 ck cs cq ckey cold cval cunt clim none 0 0 none 0 0 noF10
      have hR9:=((((((((((((((((((((((((((hx.r).cell (b:=w.heap.size) (by omega) (by omega) 0 (.int .i64 z0))).cell (b:=w.heap.size) (by omega) (by omega) 1 (.int .i64 z1))).cell (b:=w.heap.size) (by omega) (by omega) 2 (.int .i64 2))).cell (b:=w.heap.size) (by omega) (by omega) 3 (.int .i64 ck))).cell (b:=w.heap.size) (by omega) (by omega) 4 (.int .i64 cs))).cell (b:=w.heap.size) (by omega) (by omega) 5 (.int .i64 cq))).cell (b:=w.heap.size) (by omega) (by omega) 6 (.string ckey))).cell (b:=w.heap.size) (by omega) (by omega) 7 (.string cold))).cell (b:=w.heap.size) (by omega) (by omega) 8 (.string cval))).cell (b:=w.heap.size) (by omega) (by omega) 9 (.string cunt))).cell (b:=w.heap.size) (by omega) (by omega) 10 (.int .i64 clim))).cell (b:=w.heap.size) (by omega) (by omega) 11 (.slice none 0 0))).cell (b:=w.heap.size) (by omega) (by omega) 12 (.slice none 0 0))
      have hG9:=(grown_new (b:=w.heap.size) (grown_new (b:=w.heap.size) (grown_new (b:=w.heap.size) (grown_new (b:=w.heap.size) (grown_new (b:=w.heap.size) (grown_new (b:=w.heap.size) (grown_new (b:=w.heap.size) (grown_new (b:=w.heap.size) (grown_new (b:=w.heap.size) (grown_new (b:=w.heap.size) (grown_new (b:=w.heap.size) (grown_new (b:=w.heap.size) (grown_new (b:=w.heap.size) hx.g (by omega) 0 (.int .i64 z0)) (by omega) 1 (.int .i64 z1)) (by omega) 2 (.int .i64 2)) (by omega) 3 (.int .i64 ck)) (by omega) 4 (.int .i64 cs)) (by omega) 5 (.int .i64 cq)) (by omega) 6 (.string ckey)) (by omega) 7 (.string cold)) (by omega) 8 (.string cval)) (by omega) 9 (.string cunt)) (by omega) 10 (.int .i64 clim)) (by omega) 11 (.slice none 0 0)) (by omega) 12 (.slice none 0 0))
      have hO9:=((((((((((((((((((((((((((hO).cell (b:=w.heap.size) (by omega) 0 (.int .i64 z0))).cell (b:=w.heap.size) (by omega) 1 (.int .i64 z1))).cell (b:=w.heap.size) (by omega) 2 (.int .i64 2))).cell (b:=w.heap.size) (by omega) 3 (.int .i64 ck))).cell (b:=w.heap.size) (by omega) 4 (.int .i64 cs))).cell (b:=w.heap.size) (by omega) 5 (.int .i64 cq))).cell (b:=w.heap.size) (by omega) 6 (.string ckey))).cell (b:=w.heap.size) (by omega) 7 (.string cold))).cell (b:=w.heap.size) (by omega) 8 (.string cval))).cell (b:=w.heap.size) (by omega) 9 (.string cunt))).cell (b:=w.heap.size) (by omega) 10 (.int .i64 clim))).cell (b:=w.heap.size) (by omega) 11 (.slice none 0 0))).cell (b:=w.heap.size) (by omega) 12 (.slice none 0 0))
      exact bodyPost_ret (ret_one rfl _ _ w.heap.size _ _ _ _ rfl hF Tryz.underlying28 rfl (by kernel_rfl)) rfl ⟨⟨z0,z1,2,⟨ck,cs,cq,ckey,cold,cval,cunt,clim⟩,noFV⟩,S4,rfl,hO9.mono (by omega),HT.out,hR9,hG9⟩
    · have HT:Hid (Tell10 R ⟨z0,z1,2,⟨ck,cs,cq,ckey,cold,cval,cunt,clim⟩,noF10⟩ ([],true)):=by
        refine Or.inl ?_
        rw [HT0.out,if_neg e0]
      have e0':(err != 0) = true:=by simpa using e0
      obtain ⟨v7,hv7⟩:=h7.r.rd
      have r0:=hv7.c0
      have r1:=hv7.c1
      have f0:=hv7.f0
      have f1:=hv7.f1
      have hlr:=hv7.lt
      have h8:=h7.left h7.r.off
      have hbn8:CmdAt _ bn ⟨ck,cs,cq,ckey,cold,cval,cunt,clim⟩:=grown_box h7.r.off.2 hbn (by omega)
      clear hv7 HT0 h7 hbn
      go_upto_region 10 with fail
      have hbn:=hbn8
      clear hbn8 r0 r1 f0 f1 hlr
      generalize (W7.setCell ⟨rb,1,none⟩ (.bool true)).setCell ⟨rb,0,none⟩ (.slice none 0 0) = W8 at *
      replace hbn:CmdAt W8 bn ⟨ck,cs,cq,ckey,cold,cval,cunt,clim⟩:=hbn
      have c2:=box_cell h8.box 2
      have c3:=box_cell h8.box 3
      have c4:=box_cell h8.box 4
      have c5:=box_cell h8.box 5
      have c6:=box_cell h8.box 6
      have c7:=box_cell h8.box 7
      have c8:=box_cell h8.box 8
      have c9:=box_cell h8.box 9
      have c10:=box_cell h8.box 10
      have fb:=frozen9 h8.box
      have hlb:=box_lt h8.box
      obtain ⟨q0,q1,q2,q3,q4,q5,q6,q7⟩:=hbn.cells
      dsimp only at q0 q1 q2 q3 q4 q5 q6 q7
      have hlq:=box_lt hbn
      go_upto_region 13 with fail
      have hx:RdX w0 w _ rb ([],true) 28 #[.int .i64 z0,.int .i64 z1,.int .i64 2,.int .i64 ck,.int .i64 cs,.int .i64 cq,.string ckey,.string cold,.string cval,.string cunt,.int .i64 clim,.slice none 0 0,.slice none 0 0] #[.int .i64 0,.int .i64 0,.int .i64 0,.int .i64 0,.int .i64 0,.int .i64 0,.string em9,.string em9,.string em9,.string em9,.int .i64 0,.slice none 0 0,.slice none 0 0]:=((((((((h8.put 3 (.int .i64 ck) (by show 3 < 13;omega)).put 4 (.int .i64 cs) (by show 4 < 13;omega)).put 5 (.int .i64 cq) (by show 5 < 13;omega)).put 6 (.string ckey) (by show 6 < 13;omega)).put 7 (.string cold) (by show 7 < 13;omega)).put 8 (.string cval) (by show 8 < 13;omega)).put 9 (.string cunt) (by show 9 < 13;omega)).put 10 (.int .i64 clim) (by show 10 < 13;omega))
      clear h8 c2 c3 c4 c5 c6 c7 c8 c9 c10 fb hlb q0 q1 q2 q3 q4 q5 q6 q7 hlq hbn
      generalize ((((((((W8.setCell ⟨w.heap.size + 1,3,none⟩ (.int .i64 ck)).setCell ⟨w.heap.size + 1,4,none⟩ (.int .i64 cs)).setCell ⟨w.heap.size + 1,5,none⟩ (.int .i64 cq)).setCell ⟨w.heap.size + 1,6,none⟩ (.string ckey)).setCell ⟨w.heap.size + 1,7,none⟩ (.string cold)).setCell ⟨w.heap.size + 1,8,none⟩ (.string cval)).setCell ⟨w.heap.size + 1,9,none⟩ (.string cunt)).setCell ⟨w.heap.size + 1,10,none⟩ (.int .i64 clim)) = X6 at *
      have hO:OwnsE X6 (w.heap.size + 1) ⟨z0,z1,2,⟨ck,cs,cq,ckey,cold,cval,cunt,clim⟩,noFV⟩:=⟨HI0.out,HI1.out,⟨(by decide:(-9223372036854775808:Int)≤2),(by decide:(2:Int)≤9223372036854775807)⟩,HFit.out,OwnsF.nil _ _⟩
      have c0:=box_cell hx.box 0
      have c1:=box_cell hx.box 1
      have c2:=box_cell hx.box 2
      have c3:=box_cell hx.box 3
      have c4:=box_cell hx.box 4
      have c5:=box_cell hx.box 5
      have c6:=box_cell hx.box 6
      have c7:=box_cell hx.box 7
      have c8:=box_cell hx.box 8
      have c9:=box_cell hx.box 9
      have c10:=box_cell hx.box 10
      have c11:=box_cell hx.box 11
      have c12:=box_cell hx.box 12
      have d0:=box_cell hx.res 0
      have d1:=box_cell hx.res 1
      have d2:=box_cell hx.res 2
      have d3:=box_cell hx.res 3
      have d4:=box_cell hx.res 4
      have d5:=box_cell hx.res 5
      have d6:=box_cell hx.res 6
      have d7:=box_cell hx.res 7
      have d8:=box_cell hx.res 8
      have d9:=box_cell hx.res 9
      have d10:=box_cell hx.res 10
      have d11:=box_cell hx.res 11
      have d12:=box_cell hx.res 12
      have fb:=frozen9 hx.res
      have hlb:=box_lt hx.box
      have hlr:=box_lt hx.res
      go_wp2
      have hF:=fillE (b:=w.heap.size) (x0:=noEV) hx.res z0 z1 2 ck cs cq ckey cold cval cunt clim none 0 0 none 0 0 noF10
      have hR9:=((((((((((((((((((((((((((hx.r).cell (b:=w.heap.size) (by omega) (by omega) 0 (.int .i64 z0))).cell (b:=w.heap.size) (by omega) (by omega) 1 (.int .i64 z1))).cell (b:=w.heap.size) (by omega) (by omega) 2 (.int .i64 2))).cell (b:=w.heap.size) (by omega) (by omega) 3 (.int .i64 ck))).cell (b:=w.heap.size) (by omega) (by omega) 4 (.int .i64 cs))).cell (b:=w.heap.size) (by omega) (by omega) 5 (.int .i64 cq))).cell (b:=w.heap.size) (by omega) (by omega) 6 (.string ckey))).cell (b:=w.heap.size) (by omega) (by omega) 7 (.string cold))).cell (b:=w.heap.size) (by omega) (by omega) 8 (.string cval))).cell (b:=w.heap.size) (by omega) (by omega) 9 (.string cunt))).cell (b:=w.heap.size) (by omega) (by omega) 10 (.int .i64 clim))).cell (b:=w.heap.size) (by omega) (by omega) 11 (.slice none 0 0))).cell (b:=w.heap.size) (by omega) (by omega) 12 (.slice none 0 0))
      have hG9:=(grown_new (b:=w.heap.size) (grown_new (b:=w.heap.size) (grown_new (b:=w.heap.size) (grown_new (b:=w.heap.size) (grown_new (b:=w.heap.size) (grown_new (b:=w.heap.size) (grown_new (b:=w.heap.size) (grown_new (b:=w.heap.size) (grown_new (b:=w.heap.size) (grown_new (b:=w.heap.size) (grown_new (b:=w.heap.size) (grown_new (b:=w.heap.size) (grown_new (b:=w.heap.size) hx.g (by omega) 0 (.int .i64 z0)) (by omega) 1 (.int .i64 z1)) (by omega) 2 (.int .i64 2)) (by omega) 3 (.int .i64 ck)) (by omega) 4 (.int .i64 cs)) (by omega) 5 (.int .i64 cq)) (by omega) 6 (.string ckey)) (by omega) 7 (.string cold)) (by omega) 8 (.string cval)) (by omega) 9 (.string cunt)) (by omega) 10 (.int .i64 clim)) (by omega) 11 (.slice none 0 0)) (by omega) 12 (.slice none 0 0))
      have hO9:=((((((((((((((((((((((((((hO).cell (b:=w.heap.size) (by omega) 0 (.int .i64 z0))).cell (b:=w.heap.size) (by omega) 1 (.int .i64 z1))).cell (b:=w.heap.size) (by omega) 2 (.int .i64 2))).cell (b:=w.heap.size) (by omega) 3 (.int .i64 ck))).cell (b:=w.heap.size) (by omega) 4 (.int .i64 cs))).cell (b:=w.heap.size) (by omega) 5 (.int .i64 cq))).cell (b:=w.heap.size) (by omega) 6 (.string ckey))).cell (b:=w.heap.size) (by omega) 7 (.string cold))).cell (b:=w.heap.size) (by omega) 8 (.string cval))).cell (b:=w.heap.size) (by omega) 9 (.string cunt))).cell (b:=w.heap.size) (by omega) 10 (.int .i64 clim))).cell (b:=w.heap.size) (by omega) 11 (.slice none 0 0))).cell (b:=w.heap.size) (by omega) 12 (.slice none 0 0))
      exact bodyPost_ret (ret_one rfl _ _ w.heap.size _ _ _ _ rfl hF Tryz.underlying28 rfl (by kernel_rfl)) rfl ⟨⟨z0,z1,2,⟨ck,cs,cq,ckey,cold,cval,cunt,clim⟩,noFV⟩,([],true),rfl,hO9.mono (by omega),HT.out,hR9,hG9⟩
  have e2':(z2 == 2) = false:=by simpa using e2
  by_cases e3:z2 = 3
  · have HT0:Hid (∀ f S',Tell10 (conf10 1000000 S3) f S'→Tell10 R ⟨z0,z1,3,zeroC9,f⟩ S'):=fun f S' ht=>by
      rw [HC.out,e3,tail10_conf]
      exact Tell10.bind ht (.inl rfl) (fun _=>Stays.ret _) id
    have kc:=rconfR_any w0 X2 rb S3 h3.r
    subst e3
    clear HC e2 e2'
    go_wp2_with fail
    refine kc.mono ?_
    rintro _ y5 ⟨X,S4,rfl,hO5,hT5,hl5⟩
    have h5:=h3.left hl5
    have HT1:Hid (Tell10 R ⟨z0,z1,3,zeroC9,X.f⟩ S4):=HT0.out _ _ hT5
    have hbl4:=box_lt h3.box
    clear kc h3 hl5 c2 hlb hT5 HT0
    obtain ⟨⟨p,n,c⟩,⟨q,m,d⟩,f⟩:=X
    unfold ConfV.arr
    dsimp only
    have c11:=box_cell h5.box 11
    have c12:=box_cell h5.box 12
    have fb:=frozen9 h5.box
    have hlb:=box_lt h5.box
    go_upto_region 13 with fail
    have hx:RdX w0 w _ rb S4 28 #[.int .i64 z0,.int .i64 z1,.int .i64 3,.int .i64 0,.int .i64 0,.int .i64 0,.string em9,.string em9,.string em9,.string em9,.int .i64 0,.slice p n c,.slice q m d] #[.int .i64 0,.int .i64 0,.int .i64 0,.int .i64 0,.int .i64 0,.int .i64 0,.string em9,.string em9,.string em9,.string em9,.int .i64 0,.slice none 0 0,.slice none 0 0]:=(h5.put 11 (.slice p n c) (by show 11 < 13;omega)).put 12 (.slice q m d) (by show 12 < 13;omega)
    have hO0:=((hO5.cell (b:=w.heap.size + 1) (by omega) 11 (.slice p n c)).cell (b:=w.heap.size + 1) (by omega) 12 (.slice q m d)).mono (B':=w.heap.size + 1) (by omega)
    clear h5 hO5 c11 c12 fb hlb
    generalize (y5.setCell ⟨w.heap.size + 1,11,none⟩ (.slice p n c)).setCell ⟨w.heap.size + 1,12,none⟩ (.slice q m d) = X6 at *
    have hO:OwnsE X6 (w.heap.size + 1) ⟨z0,z1,3,zeroC9,⟨⟨p,n,c⟩,⟨q,m,d⟩,f⟩⟩:=⟨HI0.out,HI1.out,⟨(by decide:(-9223372036854775808:Int)≤3),(by decide:(3:Int)≤9223372036854775807)⟩,fits_zeroC,hO0⟩
    clear hO0
    have c0:=box_cell hx.box 0
    have c1:=box_cell hx.box 1
    have c2:=box_cell hx.box 2
    have c3:=box_cell hx.box 3
    have c4:=box_cell hx.box 4
    have c5:=box_cell hx.box 5
    have c6:=box_cell hx.box 6
    have c7:=box_cell hx.box 7
    have c8:=box_cell hx.box 8
    have c9:=box_cell hx.box 9
    have c10:=box_cell hx.box 10
    have c11:=box_cell hx.box 11
    have c12:=box_cell hx.box 12
    have d0:=box_cell hx.res 0
    have d1:=box_cell hx.res 1
    have d2:=box_cell hx.res 2
    have d3:=box_cell hx.res 3
    have d4:=box_cell hx.res 4
    have d5:=box_cell hx.res 5
    have d6:=box_cell hx.res 6
    have d7:=box_cell hx.res 7
    have d8:=box_cell hx.res 8
    have d9:=box_cell hx.res 9
    have d10:=box_cell hx.res 10
    have d11:=box_cell hx.res 11
    have d12:=box_cell hx.res 12
    have fb:=frozen9 hx.res
    have hlb:=box_lt hx.box
    have hlr:=box_lt hx.res
    go_wp2
    have hF:=fillE (b:=w.heap.size) (x0:=noEV) hx.res z0 z1 3 0 0 0 em9 em9 em9 em9 0 p n c q m d f
    have hR9:=((((((((((((((((((((((((((hx.r).cell (b:=w.heap.size) (by omega) (by omega) 0 (.int .i64 z0))).cell (b:=w.heap.size) (by omega) (by omega) 1 (.int .i64 z1))).cell (b:=w.heap.size) (by omega) (by omega) 2 (.int .i64 3))).cell (b:=w.heap.size) (by omega) (by omega) 3 (.int .i64 0))).cell (b:=w.heap.size) (by omega) (by omega) 4 (.int .i64 0))).cell (b:=w.heap.size) (by omega) (by omega) 5 (.int .i64 0))).cell (b:=w.heap.size) (by omega) (by omega) 6 (.string em9))).cell (b:=w.heap.size) (by omega) (by omega) 7 (.string em9))).cell (b:=w.heap.size) (by omega) (by omega) 8 (.string em9))).cell (b:=w.heap.size) (by omega) (by omega) 9 (.string em9))).cell (b:=w.heap.size) (by omega) (by omega) 10 (.int .i64 0))).cell (b:=w.heap.size) (by omega) (by omega) 11 (.slice p n c))).cell (b:=w.heap.size) (by omega) (by omega) 12 (.slice q m d))
    have hG9:=(grown_new (b:=w.heap.size) (grown_new (b:=w.heap.size) (grown_new (b:=w.heap.size) (grown_new (b:=w.heap.size) (grown_new (b:=w.heap.size) (grown_new (b:=w.heap.size) (grown_new (b:=w.heap.size) (grown_new (b:=w.heap.size) (grown_new (b:=w.heap.size) (grown_new (b:=w.heap.size) (grown_new (b:=w.heap.size) (grown_new (b:=w.heap.size) (grown_new (b:=w.heap.size) hx.g (by omega) 0 (.int .i64 z0)) (by omega) 1 (.int .i64 z1)) (by omega) 2 (.int .i64 3)) (by omega) 3 (.int .i64 0)) (by omega) 4 (.int .i64 0)) (by omega) 5 (.int .i64 0)) (by omega) 6 (.string em9)) (by omega) 7 (.string em9)) (by omega) 8 (.string em9)) (by omega) 9 (.string em9)) (by omega) 10 (.int .i64 0)) (by omega) 11 (.slice p n c)) (by omega) 12 (.slice q m d))
    have hO9:=((((((((((((((((((((((((((hO).cell (b:=w.heap.size) (by omega) 0 (.int .i64 z0))).cell (b:=w.heap.size) (by omega) 1 (.int .i64 z1))).cell (b:=w.heap.size) (by omega) 2 (.int .i64 3))).cell (b:=w.heap.size) (by omega) 3 (.int .i64 0))).cell (b:=w.heap.size) (by omega) 4 (.int .i64 0))).cell (b:=w.heap.size) (by omega) 5 (.int .i64 0))).cell (b:=w.heap.size) (by omega) 6 (.string em9))).cell (b:=w.heap.size) (by omega) 7 (.string em9))).cell (b:=w.heap.size) (by omega) 8 (.string em9))).cell (b:=w.heap.size) (by omega) 9 (.string em9))).cell (b:=w.heap.size) (by omega) 10 (.int .i64 0))).cell (b:=w.heap.size) (by omega) 11 (.slice p n c))).cell (b:=w.heap.size) (by omega) 12 (.slice q m d))
    exact bodyPost_ret (ret_one rfl _ _ w.heap.size _ _ _ _ rfl hF Tryz.underlying28 rfl (by kernel_rfl)) rfl ⟨⟨z0,z1,3,zeroC9,⟨⟨p,n,c⟩,⟨q,m,d⟩,f⟩⟩,S4,rfl,hO9.mono (by omega),HT1.out,hR9,hG9⟩
  have e3':(z2 == 3) = false:=by simpa using e3
  have HT:Hid (Tell10 R ⟨z0,z1,z2,zeroC9,noF10⟩ S3):=by
    refine Or.inl ?_
    rw [HC.out,tail10_else _ _ _ _ _ e2 e3]
  clear HC e2 e3 c2 hlb
  have hx:=h3
  have c2:=box_cell hx.box 2
  have hlb:=box_lt hx.box
  go_upto_region 13 with fail
  have hO:OwnsE X2 (w.heap.size + 1) ⟨z0,z1,z2,zeroC9,noFV⟩:=⟨HI0.out,HI1.out,HI2.out,fits_zeroC,OwnsF.nil _ _⟩
  clear c2 hlb h3
  have c0:=box_cell hx.box 0
  have c1:=box_cell hx.box 1
  have c2:=box_cell hx.box 2
  have c3:=box_cell hx.box 3
  have c4:=box_cell hx.box 4
  have c5:=box_cell hx.box 5
  have c6:=box_cell hx.box 6
  have c7:=box_cell hx.box 7
  have c8:=box_cell hx.box 8
  have c9:=box_cell hx.box 9
  have c10:=box_cell hx.box 10
  have c11:=box_cell hx.box 11
  have c12:=box_cell hx.box 12
  have d0:=box_cell hx.res 0
  have d1:=box_cell hx.res 1
  have d2:=box_cell hx.res 2
  have d3:=box_cell hx.res 3
  have d4:=box_cell hx.res 4
  have d5:=box_cell hx.res 5
  have d6:=box_cell hx.res 6
  have d7:=box_cell hx.res 7
  have d8:=box_cell hx.res 8
  have d9:=box_cell hx.res 9
  have d10:=box_cell hx.res 10
  have d11:=box_cell hx.res 11
  have d12:=box_cell hx.res 12
  have fb:=frozen9 hx.res
  have hlb:=box_lt hx.box
  have hlr:=box_lt hx.res
  go_wp2
  have hF:=fillE (b:=w.heap.size) (x0:=noEV) hx.res z0 z1 z2 0 0 0 em9 em9 em9 em9 0 none 0 0 none 0 0 noF10
  have hR9:=((((((((((((((((((((((((((hx.r).cell (b:=w.heap.size) (by omega) (by omega) 0 (.int .i64 z0))).cell (b:=w.heap.size) (by omega) (by omega) 1 (.int .i64 z1))).cell (b:=w.heap.size) (by omega) (by omega) 2 (.int .i64 z2))).cell (b:=w.heap.size) (by omega) (by omega) 3 (.int .i64 0))).cell (b:=w.heap.size) (by omega) (by omega) 4 (.int .i64 0))).cell (b:=w.heap.size) (by omega) (by omega) 5 (.int .i64 0))).cell (b:=w.heap.size) (by omega) (by omega) 6 (.string em9))).cell (b:=w.heap.size) (by omega) (by omega) 7 (.string em9))).cell (b:=w.heap.size) (by omega) (by omega) 8 (.string em9))).cell (b:=w.heap.size) (by omega) (by omega) 9 (.string em9))).cell (b:=w.heap.size) (by omega) (by omega) 10 (.int .i64 0))).cell (b:=w.heap.size) (by omega) (by omega) 11 (.slice none 0 0))).cell (b:=w.heap.size) (by omega) (by omega) 12 (.slice none 0 0))
  have hG9:=(grown_new (b:=w.heap.size) (grown_new (b:=w.heap.size) (grown_new (b:=w.heap.size) (grown_new (b:=w.heap.size) (grown_new (b:=w.heap.size) (grown_new (b:=w.heap.size) (grown_new (b:=w.heap.size) (grown_new (b:=w.heap.size) (grown_new (b:=w.heap.size) (grown_new (b:=w.heap.size) (grown_new (b:=w.heap.size) (grown_new (b:=w.heap.size) (grown_new (b:=w.heap.size) hx.g (by omega) 0 (.int .i64 z0)) (by omega) 1 (.int .i64 z1)) (by omega) 2 (.int .i64 z2)) (by omega) 3 (.int .i64 0)) (by omega) 4 (.int .i64 0)) (by omega) 5 (.int .i64 0)) (by omega) 6 (.string em9)) (by omega) 7 (.string em9)) (by omega) 8 (.string em9)) (by omega) 9 (.string em9)) (by omega) 10 (.int .i64 0)) (by omega) 11 (.slice none 0 0)) (by omega) 12 (.slice none 0 0))
  have hO9:=((((((((((((((((((((((((((hO).cell (b:=w.heap.size) (by omega) 0 (.int .i64 z0))).cell (b:=w.heap.size) (by omega) 1 (.int .i64 z1))).cell (b:=w.heap.size) (by omega) 2 (.int .i64 z2))).cell (b:=w.heap.size) (by omega) 3 (.int .i64 0))).cell (b:=w.heap.size) (by omega) 4 (.int .i64 0))).cell (b:=w.heap.size) (by omega) 5 (.int .i64 0))).cell (b:=w.heap.size) (by omega) 6 (.string em9))).cell (b:=w.heap.size) (by omega) 7 (.string em9))).cell (b:=w.heap.size) (by omega) 8 (.string em9))).cell (b:=w.heap.size) (by omega) 9 (.string em9))).cell (b:=w.heap.size) (by omega) 10 (.int .i64 0))).cell (b:=w.heap.size) (by omega) 11 (.slice none 0 0))).cell (b:=w.heap.size) (by omega) 12 (.slice none 0 0))
  exact bodyPost_ret (ret_one rfl _ _ w.heap.size _ _ _ _ rfl hF Tryz.underlying28 rfl (by kernel_rfl)) rfl ⟨⟨z0,z1,z2,zeroC9,noFV⟩,S3,rfl,hO9.mono (by omega),HT.out,hR9,hG9⟩
set_option maxRecDepth 100000 in
set_option maxHeartbeats 4000000 in
theorem rreadE_own (v:Value) (xs:List Int) (w:World) (hv:Has w v xs) (hB:IsB xs) (hl:xs.length≤1073741824) :
    Calls Tryz.prog 99 #[v] w fun e w'=>∃ X:EntV,e = .returned (.tuple #[.agg X.arr,.int .i64 (whole10 goodE10 noE10 (pent10 (xs,false))).2])∧X.e = (whole10 goodE10 noE10 (pent10 (xs,false))).1∧OwnsE w' w.heap.size X∧Below w.heap.size w w':=by
  have hb1:Below w.heap.size w (w.alloc (.cells #[.int .i64 0,.int .i64 0,.int .i64 0,.int .i64 0,.int .i64 0,.int .i64 0,.string em9,.string em9,.string em9,.string em9,.int .i64 0,.slice none 0 0,.slice none 0 0] 28)):=(Below.refl _ _).alloc (Nat.le_refl _) _
  have hbox:EntAt (w.alloc (.cells #[.int .i64 0,.int .i64 0,.int .i64 0,.int .i64 0,.int .i64 0,.int .i64 0,.string em9,.string em9,.string em9,.string em9,.int .i64 0,.slice none 0 0,.slice none 0 0] 28)) w.heap.size noEV:=heap_alloc_new w _
  have hz1:(w.alloc (.cells #[.int .i64 0,.int .i64 0,.int .i64 0,.int .i64 0,.int .i64 0,.int .i64 0,.string em9,.string em9,.string em9,.string em9,.int .i64 0,.slice none 0 0,.slice none 0 0] 28)).heap.size = w.heap.size + 1:=by simp
  have hR:=Rdr.make hb1 hv hB hl 166
  have hsl:∃ p n c,v = .slice p n c:=by
    obtain ⟨p,c,hp,-⟩:=hv
    exact ⟨p,_,c,hp⟩
  have hb2:Below (w.alloc (.cells #[.int .i64 0,.int .i64 0,.int .i64 0,.int .i64 0,.int .i64 0,.int .i64 0,.string em9,.string em9,.string em9,.string em9,.int .i64 0,.slice none 0 0,.slice none 0 0] 28)).heap.size (w.alloc (.cells #[.int .i64 0,.int .i64 0,.int .i64 0,.int .i64 0,.int .i64 0,.int .i64 0,.string em9,.string em9,.string em9,.string em9,.int .i64 0,.slice none 0 0,.slice none 0 0] 28)) ((w.alloc (.cells #[.int .i64 0,.int .i64 0,.int .i64 0,.int .i64 0,.int .i64 0,.int .i64 0,.string em9,.string em9,.string em9,.string em9,.int .i64 0,.slice none 0 0,.slice none 0 0] 28)).alloc (.cells #[v,.bool false] 166)):=(Below.refl _ _).alloc (Nat.le_refl _) _
  have hbox2:EntAt _ w.heap.size noEV:=box_below hbox hb2
  have hz2:((w.alloc (.cells #[.int .i64 0,.int .i64 0,.int .i64 0,.int .i64 0,.int .i64 0,.int .i64 0,.string em9,.string em9,.string em9,.string em9,.int .i64 0,.slice none 0 0,.slice none 0 0] 28)).alloc (.cells #[v,.bool false] 166)).heap.size = w.heap.size + 2:=by simp
  have k1:=rentryR_any w _ _ (xs,false) hR
  have HW1:Hid (∀ x S',Tell10 (ent10 1000000 (xs,false)) x S'→whole10 goodE10 noE10 (pent10 (xs,false)) = if (S'.1.isEmpty && !S'.2) && goodE10 x then (x,0) else (noE10,8)):=fun x S' ht=>by
    rw [(ent10_sim 1000000 (by decide)).whole noE10 (xs,false),← ht.whole]
    rfl
  generalize whole10 goodE10 noE10 (pent10 (xs,false)) = R at *
  obtain ⟨p0,n0,c0_,rfl⟩:=hsl
  rw [hz1] at k1 hR
  clear hR hv hB hbox hb2 hb1 hz1
  go_enter Tryz.func99,Tryz.ntmps99
  go_wp2_with fail
  generalize (w.alloc (.cells #[.int .i64 0,.int .i64 0,.int .i64 0,.int .i64 0,.int .i64 0,.int .i64 0,.string em9,.string em9,.string em9,.string em9,.int .i64 0,.slice none 0 0,.slice none 0 0] 28)).alloc (.cells #[.slice p0 n0 c0_,.bool false] 166) = W2 at *
  refine k1.mono ?_
  rintro _ w3 ⟨X,S1,rfl,hM,hT,hR3,hg3⟩
  have hbox3:EntAt w3 w.heap.size noEV:=grown_box hg3 hbox2 (by omega)
  have hsz3:=hg3.size
  have HW0:Hid (R = if (S1.1.isEmpty && !S1.2) && goodE10 X.e then (X.e,0) else (noE10,8)):=HW1.out _ _ hT
  have hb4:Below w3.heap.size w3 (w3.alloc (.cells X.arr 28)):=(Below.refl _ _).alloc (Nat.le_refl _) _
  have hbn:EntAt (w3.alloc (.cells X.arr 28)) w3.heap.size X:=heap_alloc_new w3 _
  have hbox4:=box_below hbox3 hb4
  have hR4:=hR3.more hb4
  have hM4:=hM.below hb4
  have kg:=rgoodE_any X _ hM4.fits
  have kf:=hR4.rfin
  have HX:Hid (X.e = X.e):=rfl
  clear k1 hbox2 hbox3 hM hT hR3 hg3 hb4 HW1
  generalize hgx:goodE10 X.e = gx at *
  clear hgx
  generalize hx0:X.e = x0 at *
  replace HX:Hid (X.e = x0):=hx0
  clear hx0
  obtain ⟨i,t,k,⟨ck,cs,cq,ckey,cold,cval,cunt,clim⟩,⟨⟨p,n,c⟩,⟨q,m,d⟩,f⟩⟩:=X
  unfold EntV.arr at *
  dsimp only at *
  go_wp2_with fail
  generalize w3.alloc (.cells #[.int .i64 i,.int .i64 t,.int .i64 k,.int .i64 ck,.int .i64 cs,.int .i64 cq,.string ckey,.string cold,.string cval,.string cunt,.int .i64 clim,.slice p n c,.slice q m d] 28) = W4 at *
  replace hbox4:EntAt W4 w.heap.size noEV:=hbox4
  replace hbn:EntAt W4 w3.heap.size ⟨i,t,k,⟨ck,cs,cq,ckey,cold,cval,cunt,clim⟩,⟨⟨p,n,c⟩,⟨q,m,d⟩,f⟩⟩:=hbn
  generalize hbx:w3.heap.size = bx at *
  clear hbx
  generalize hfi:(S1.1.isEmpty && !S1.2) = fi at *
  clear hfi
  cases fi with
  | false =>
    have HW:Hid (R = (noE10,8)):=by rw [Hid,HW0.out];rfl
    clear HW0
    refine same_mono kf ?_
    have d0:=box_cell hbox4 0
    have d1:=box_cell hbox4 1
    have d2:=box_cell hbox4 2
    have d3:=box_cell hbox4 3
    have d4:=box_cell hbox4 4
    have d5:=box_cell hbox4 5
    have d6:=box_cell hbox4 6
    have d7:=box_cell hbox4 7
    have d8:=box_cell hbox4 8
    have d9:=box_cell hbox4 9
    have d10:=box_cell hbox4 10
    have d11:=box_cell hbox4 11
    have d12:=box_cell hbox4 12
    have fb:=frozen9 hbox4
    have hlr:=box_lt hbox4
    dsimp only [EntV.arr,noEV,zeroC9,noFV,nilS10] at d0 d1 d2 d3 d4 d5 d6 d7 d8 d9 d10 d11 d12
    go_wp2
    have hF:=fillE (b:=w.heap.size) (x0:=noEV) hbox4 0 0 0 0 0 0 em9 em9 em9 em9 0 none 0 0 none 0 0 noF10
    have hB9:Below w.heap.size w _:=(((((((((((((hR4.bel.setCell (p:=⟨w.heap.size,0,none⟩) (Nat.le_refl _) (.int .i64 0)).setCell (p:=⟨w.heap.size,1,none⟩) (Nat.le_refl _) (.int .i64 0)).setCell (p:=⟨w.heap.size,2,none⟩) (Nat.le_refl _) (.int .i64 0)).setCell (p:=⟨w.heap.size,3,none⟩) (Nat.le_refl _) (.int .i64 0)).setCell (p:=⟨w.heap.size,4,none⟩) (Nat.le_refl _) (.int .i64 0)).setCell (p:=⟨w.heap.size,5,none⟩) (Nat.le_refl _) (.int .i64 0)).setCell (p:=⟨w.heap.size,6,none⟩) (Nat.le_refl _) (.string em9)).setCell (p:=⟨w.heap.size,7,none⟩) (Nat.le_refl _) (.string em9)).setCell (p:=⟨w.heap.size,8,none⟩) (Nat.le_refl _) (.string em9)).setCell (p:=⟨w.heap.size,9,none⟩) (Nat.le_refl _) (.string em9)).setCell (p:=⟨w.heap.size,10,none⟩) (Nat.le_refl _) (.int .i64 0)).setCell (p:=⟨w.heap.size,11,none⟩) (Nat.le_refl _) (.slice none 0 0)).setCell (p:=⟨w.heap.size,12,none⟩) (Nat.le_refl _) (.slice none 0 0))
    refine bodyPost_ret (ret_cell9 rfl _ _ w.heap.size _ _ _ _ rfl hF Tryz.underlying28 rfl (by kernel_rfl)) rfl ⟨noEV,?_,?_,OwnsE.nil _ w.heap.size,hB9⟩
    · rw [HW.out];rfl
    · rw [HW.out];rfl
  | true =>
    refine same_mono kf ?_
    clear kf
    have c0:=box_cell hbn 0
    have c1:=box_cell hbn 1
    have c2:=box_cell hbn 2
    have c3:=box_cell hbn 3
    have c4:=box_cell hbn 4
    have c5:=box_cell hbn 5
    have c6:=box_cell hbn 6
    have c7:=box_cell hbn 7
    have c8:=box_cell hbn 8
    have c9:=box_cell hbn 9
    have c10:=box_cell hbn 10
    have c11:=box_cell hbn 11
    have c12:=box_cell hbn 12
    have hlx:=box_lt hbn
    dsimp only [EntV.arr] at c0 c1 c2 c3 c4 c5 c6 c7 c8 c9 c10 c11 c12
    go_wp2_with fail
    refine kg.mono ?_
    rintro _ w5 ⟨rfl,hb5⟩
    have hbn5:EntAt w5 bx ⟨i,t,k,⟨ck,cs,cq,ckey,cold,cval,cunt,clim⟩,⟨⟨p,n,c⟩,⟨q,m,d⟩,f⟩⟩:=box_below hbn hb5
    have hbox5:EntAt w5 w.heap.size noEV:=box_below hbox4 hb5
    have hR5:=hR4.more hb5
    have hM5:=hM4.below hb5
    clear kg hbn hbox4 hR4 hM4 hb5 c0 c1 c2 c3 c4 c5 c6 c7 c8 c9 c10 c11 c12 hlx
    cases gx with
    | false =>
      have HW:Hid (R = (noE10,8)):=by rw [Hid,HW0.out];rfl
      clear HW0
      have d0:=box_cell hbox5 0
      have d1:=box_cell hbox5 1
      have d2:=box_cell hbox5 2
      have d3:=box_cell hbox5 3
      have d4:=box_cell hbox5 4
      have d5:=box_cell hbox5 5
      have d6:=box_cell hbox5 6
      have d7:=box_cell hbox5 7
      have d8:=box_cell hbox5 8
      have d9:=box_cell hbox5 9
      have d10:=box_cell hbox5 10
      have d11:=box_cell hbox5 11
      have d12:=box_cell hbox5 12
      have fb:=frozen9 hbox5
      have hlr:=box_lt hbox5
      dsimp only [EntV.arr,noEV,zeroC9,noFV,nilS10] at d0 d1 d2 d3 d4 d5 d6 d7 d8 d9 d10 d11 d12
      go_wp2
      have hF:=fillE (b:=w.heap.size) (x0:=noEV) hbox5 0 0 0 0 0 0 em9 em9 em9 em9 0 none 0 0 none 0 0 noF10
      have hB9:Below w.heap.size w _:=(((((((((((((hR5.bel.setCell (p:=⟨w.heap.size,0,none⟩) (Nat.le_refl _) (.int .i64 0)).setCell (p:=⟨w.heap.size,1,none⟩) (Nat.le_refl _) (.int .i64 0)).setCell (p:=⟨w.heap.size,2,none⟩) (Nat.le_refl _) (.int .i64 0)).setCell (p:=⟨w.heap.size,3,none⟩) (Nat.le_refl _) (.int .i64 0)).setCell (p:=⟨w.heap.size,4,none⟩) (Nat.le_refl _) (.int .i64 0)).setCell (p:=⟨w.heap.size,5,none⟩) (Nat.le_refl _) (.int .i64 0)).setCell (p:=⟨w.heap.size,6,none⟩) (Nat.le_refl _) (.string em9)).setCell (p:=⟨w.heap.size,7,none⟩) (Nat.le_refl _) (.string em9)).setCell (p:=⟨w.heap.size,8,none⟩) (Nat.le_refl _) (.string em9)).setCell (p:=⟨w.heap.size,9,none⟩) (Nat.le_refl _) (.string em9)).setCell (p:=⟨w.heap.size,10,none⟩) (Nat.le_refl _) (.int .i64 0)).setCell (p:=⟨w.heap.size,11,none⟩) (Nat.le_refl _) (.slice none 0 0)).setCell (p:=⟨w.heap.size,12,none⟩) (Nat.le_refl _) (.slice none 0 0))
      refine bodyPost_ret (ret_cell9 rfl _ _ w.heap.size _ _ _ _ rfl hF Tryz.underlying28 rfl (by kernel_rfl)) rfl ⟨noEV,?_,?_,OwnsE.nil _ w.heap.size,hB9⟩
      · rw [HW.out];rfl
      · rw [HW.out];rfl
    | true =>
      have HW:Hid (R = (x0,0)):=by rw [Hid,HW0.out];rfl
      clear HW0
      have c0:=box_cell hbn5 0
      have d0:=box_cell hbox5 0
      have c1:=box_cell hbn5 1
      have d1:=box_cell hbox5 1
      have c2:=box_cell hbn5 2
      have d2:=box_cell hbox5 2
      have c3:=box_cell hbn5 3
      have d3:=box_cell hbox5 3
      have c4:=box_cell hbn5 4
      have d4:=box_cell hbox5 4
      have c5:=box_cell hbn5 5
      have d5:=box_cell hbox5 5
      have c6:=box_cell hbn5 6
      have d6:=box_cell hbox5 6
      have c7:=box_cell hbn5 7
      have d7:=box_cell hbox5 7
      have c8:=box_cell hbn5 8
      have d8:=box_cell hbox5 8
      have c9:=box_cell hbn5 9
      have d9:=box_cell hbox5 9
      have c10:=box_cell hbn5 10
      have d10:=box_cell hbox5 10
      have c11:=box_cell hbn5 11
      have d11:=box_cell hbox5 11
      have c12:=box_cell hbn5 12
      have d12:=box_cell hbox5 12
      dsimp only [EntV.arr,noEV,zeroC9,noFV,nilS10] at c0 d0 c1 d1 c2 d2 c3 d3 c4 d4 c5 d5 c6 d6 c7 d7 c8 d8 c9 d9 c10 d10 c11 d11 c12 d12
      have hlx:=box_lt hbn5
      have hlr:=box_lt hbox5
      have fb:=frozen9 hbox5
      go_wp2
      have hF:=fillE (b:=w.heap.size) (x0:=noEV) hbox5 i t k ck cs cq ckey cold cval cunt clim p n c q m d f
      have hO9:=((((((((((((((((((((((((((hM5).cell (b:=w.heap.size) (by omega) 0 (.int .i64 i))).cell (b:=w.heap.size) (by omega) 1 (.int .i64 t))).cell (b:=w.heap.size) (by omega) 2 (.int .i64 k))).cell (b:=w.heap.size) (by omega) 3 (.int .i64 ck))).cell (b:=w.heap.size) (by omega) 4 (.int .i64 cs))).cell (b:=w.heap.size) (by omega) 5 (.int .i64 cq))).cell (b:=w.heap.size) (by omega) 6 (.string ckey))).cell (b:=w.heap.size) (by omega) 7 (.string cold))).cell (b:=w.heap.size) (by omega) 8 (.string cval))).cell (b:=w.heap.size) (by omega) 9 (.string cunt))).cell (b:=w.heap.size) (by omega) 10 (.int .i64 clim))).cell (b:=w.heap.size) (by omega) 11 (.slice p n c))).cell (b:=w.heap.size) (by omega) 12 (.slice q m d))
      have hB9:Below w.heap.size w _:=(((((((((((((hR5.bel.setCell (p:=⟨w.heap.size,0,none⟩) (Nat.le_refl _) (.int .i64 i)).setCell (p:=⟨w.heap.size,1,none⟩) (Nat.le_refl _) (.int .i64 t)).setCell (p:=⟨w.heap.size,2,none⟩) (Nat.le_refl _) (.int .i64 k)).setCell (p:=⟨w.heap.size,3,none⟩) (Nat.le_refl _) (.int .i64 ck)).setCell (p:=⟨w.heap.size,4,none⟩) (Nat.le_refl _) (.int .i64 cs)).setCell (p:=⟨w.heap.size,5,none⟩) (Nat.le_refl _) (.int .i64 cq)).setCell (p:=⟨w.heap.size,6,none⟩) (Nat.le_refl _) (.string ckey)).setCell (p:=⟨w.heap.size,7,none⟩) (Nat.le_refl _) (.string cold)).setCell (p:=⟨w.heap.size,8,none⟩) (Nat.le_refl _) (.string cval)).setCell (p:=⟨w.heap.size,9,none⟩) (Nat.le_refl _) (.string cunt)).setCell (p:=⟨w.heap.size,10,none⟩) (Nat.le_refl _) (.int .i64 clim)).setCell (p:=⟨w.heap.size,11,none⟩) (Nat.le_refl _) (.slice p n c)).setCell (p:=⟨w.heap.size,12,none⟩) (Nat.le_refl _) (.slice q m d))
      refine bodyPost_ret (ret_cell9 rfl _ _ w.heap.size _ _ _ _ rfl hF Tryz.underlying28 rfl (by kernel_rfl)) rfl ⟨⟨i,t,k,⟨ck,cs,cq,ckey,cold,cval,cunt,clim⟩,⟨⟨p,n,c⟩,⟨q,m,d⟩,f⟩⟩,?_,?_,hO9.mono (by omega),hB9⟩
      · rw [HW.out];rfl
      · rw [HW.out];exact HX.out
set_option maxRecDepth 100000 in
set_option maxHeartbeats 2000000 in
theorem rgoodHard_any (x:Hard10) (w:World):Calls Tryz.prog 49 #[.agg x.arr] w fun e w'=>e = .returned (.bool (goodH10 x))∧Below w.heap.size w w':=by
  have hb1:Below w.heap.size w (w.alloc (.cells x.arr 30)):=(Below.refl _ _).alloc (Nat.le_refl _) _
  have HG:Hid (goodH10 x = (decide (0≤x.t) && decide (0≤x.v) && decide (0≤x.c))):=rfl
  generalize goodH10 x = r at *
  obtain ⟨ht,hv,hc⟩:=x
  unfold Hard10.arr at *
  dsimp only at *
  by_cases h1:0≤ht
  case neg =>
    have HF:Hid (r = false):=by rw [Hid,HG.out,decide_eq_false h1];rfl
    clear HG
    go_enter Tryz.func49,Tryz.ntmps49
    go_wp2
    go_ret
    rw [HF.out]
    exact ⟨rfl,hb1⟩
  by_cases h2:0≤hv
  case neg =>
    have HF:Hid (r = false):=by rw [Hid,HG.out,decide_eq_false h2];simp
    clear HG
    go_enter Tryz.func49,Tryz.ntmps49
    go_wp2
    go_ret
    rw [HF.out]
    exact ⟨rfl,hb1⟩
  have HF:Hid (r = decide (0≤hc)):=by rw [Hid,HG.out,decide_eq_true h1,decide_eq_true h2];rfl
  clear HG
  go_enter Tryz.func49,Tryz.ntmps49
  go_wp2
  go_ret
  rw [HF.out]
  exact ⟨rfl,hb1⟩
structure RdH (w wc:World) (S:St) (a z:Array Value):Prop where
  r:Rdr w wc (w.heap.size + 1) S
  box:wc.heap[w.heap.size + 2]? = some (.cells a 30 (0,0))
  res:wc.heap[w.heap.size]? = some (.cells z 30 (0,0))
theorem RdH.left {w wc wd:World} {S S':St} {a z:Array Value} (h:RdH w wc S a z) (hl:Left10 w wc (w.heap.size + 1) S' wd):RdH w wd S' a z:=⟨hl.1,grown_box hl.2 h.box (by omega),grown_box hl.2 h.res (by omega)⟩
theorem RdH.put {w wc:World} {S:St} {a z:Array Value} (h:RdH w wc S a z) (i:Nat) (v:Value) (hi:i < a.size):RdH w (wc.setCell ⟨w.heap.size + 2,i,none⟩ v) S (a.set i v hi) z :=
  ⟨h.r.cell (by omega) (by omega) i v,set_block9 h.box i v hi,grown_box (grown_set wc (w.heap.size + 2) i v) h.res (by omega)⟩
theorem RdH.more {w wc wd:World} {S:St} {a z:Array Value} (h:RdH w wc S a z) (hb:Below wc.heap.size wc wd):RdH w wd S a z:=⟨h.r.more hb,box_below h.box hb,box_below h.res hb⟩
set_option maxRecDepth 100000 in
set_option maxHeartbeats 4000000 in
theorem rreadH_any (v:Value) (xs:List Int) (w:World) (hv:Has w v xs) (hB:IsB xs) (hl:xs.length≤1073741824) :
    Calls Tryz.prog 100 #[v] w fun e w'=>∃ X:Hard10,e = .returned (.tuple #[.agg X.arr,.int .i64 (whole10 goodH10 noH10 (hard10 (xs,false))).2])∧X = (whole10 goodH10 noH10 (hard10 (xs,false))).1∧Below w.heap.size w w':=by
  have hb1:Below w.heap.size w (w.alloc (.cells #[.int .i64 0,.int .i64 0,.int .i64 0] 30)):=(Below.refl _ _).alloc (Nat.le_refl _) _
  have hbox:HardAt (w.alloc (.cells #[.int .i64 0,.int .i64 0,.int .i64 0] 30)) w.heap.size noH10:=heap_alloc_new w _
  have hz1:(w.alloc (.cells #[.int .i64 0,.int .i64 0,.int .i64 0] 30)).heap.size = w.heap.size + 1:=by simp
  have hR:=Rdr.make hb1 hv hB hl 166
  have hsl:∃ p n c,v = .slice p n c:=by
    obtain ⟨p,c,hp,-⟩:=hv
    exact ⟨p,_,c,hp⟩
  have hb2:Below (w.alloc (.cells #[.int .i64 0,.int .i64 0,.int .i64 0] 30)).heap.size (w.alloc (.cells #[.int .i64 0,.int .i64 0,.int .i64 0] 30)) ((w.alloc (.cells #[.int .i64 0,.int .i64 0,.int .i64 0] 30)).alloc (.cells #[v,.bool false] 166)):=(Below.refl _ _).alloc (Nat.le_refl _) _
  have hb3:=(Below.refl _ ((w.alloc (.cells #[.int .i64 0,.int .i64 0,.int .i64 0] 30)).alloc (.cells #[v,.bool false] 166))).alloc (Nat.le_refl _) (.cells #[.int .i64 0,.int .i64 0,.int .i64 0] 30)
  have hz2:((w.alloc (.cells #[.int .i64 0,.int .i64 0,.int .i64 0] 30)).alloc (.cells #[v,.bool false] 166)).heap.size = w.heap.size + 2:=by simp
  have hn:=heap_alloc_new ((w.alloc (.cells #[.int .i64 0,.int .i64 0,.int .i64 0] 30)).alloc (.cells #[v,.bool false] 166)) (.cells #[.int .i64 0,.int .i64 0,.int .i64 0] 30)
  rw [hz2] at hn
  rw [hz1] at hR
  have h0:RdH w _ (xs,false) #[.int .i64 0,.int .i64 0,.int .i64 0] #[.int .i64 0,.int .i64 0,.int .i64 0]:=⟨hR.more hb3,hn,box_below (box_below hbox hb2) hb3⟩
  have HC:Hid (whole10 goodH10 noH10 (hard10 (xs,false)) = if ((int9 (int9 (int9 (xs,false)).2).2).2.1.isEmpty && !(int9 (int9 (int9 (xs,false)).2).2).2.2) && goodH10 ⟨(int9 (xs,false)).1,(int9 (int9 (xs,false)).2).1,(int9 (int9 (int9 (xs,false)).2).2).1⟩ then (⟨(int9 (xs,false)).1,(int9 (int9 (xs,false)).2).1,(int9 (int9 (int9 (xs,false)).2).2).1⟩,0) else (noH10,8)):=by
    rw [Hid,hard10_is]
    rfl
  have HI:Hid (xs.length = xs.length):=rfl
  generalize whole10 goodH10 noH10 (hard10 (xs,false)) = R at *
  obtain ⟨p0,n0,c0_,rfl⟩:=hsl
  clear hR hv hB hbox hb2 hb1 hz1 hb3 hn hz2
  generalize ((xs,false):St) = S0 at *
  go_enter Tryz.func100,Tryz.ntmps100
  have ki0:=h0.r.rint
  go_wp2_with fail
  refine ki0.mono ?_
  rintro _ y0 ⟨rfl,hl0⟩
  have g0:=h0.left hl0
  clear h0 ki0 hl0
  generalize int9 S0 = A at *
  obtain ⟨z0,S1⟩:=A
  dsimp only at g0 HC HI
  have c0:=box_cell g0.box 0
  have fb:=frozen9 g0.box
  have hlb:=box_lt g0.box
  go_upto_region 4 with fail
  have h1:RdH w _ S1 #[.int .i64 z0,.int .i64 0,.int .i64 0] #[.int .i64 0,.int .i64 0,.int .i64 0]:=g0.put 0 (.int .i64 z0) (by show 0 < 3;omega)
  clear g0 c0 fb hlb
  generalize y0.setCell ⟨w.heap.size + 2,0,none⟩ (.int .i64 z0) = X0 at *
  have ki1:=h1.r.rint
  go_wp2_with fail
  refine ki1.mono ?_
  rintro _ y1 ⟨rfl,hl1⟩
  have g1:=h1.left hl1
  clear h1 ki1 hl1
  generalize int9 S1 = A at *
  obtain ⟨z1,S2⟩:=A
  dsimp only at g1 HC HI
  have c1:=box_cell g1.box 1
  have fb:=frozen9 g1.box
  have hlb:=box_lt g1.box
  go_upto_region 5 with fail
  have h2:RdH w _ S2 #[.int .i64 z0,.int .i64 z1,.int .i64 0] #[.int .i64 0,.int .i64 0,.int .i64 0]:=g1.put 1 (.int .i64 z1) (by show 1 < 3;omega)
  clear g1 c1 fb hlb
  generalize y1.setCell ⟨w.heap.size + 2,1,none⟩ (.int .i64 z1) = X1 at *
  have ki2:=h2.r.rint
  go_wp2_with fail
  refine ki2.mono ?_
  rintro _ y2 ⟨rfl,hl2⟩
  have g2:=h2.left hl2
  clear h2 ki2 hl2
  generalize int9 S2 = A at *
  obtain ⟨z2,S3⟩:=A
  dsimp only at g2 HC HI
  have c2:=box_cell g2.box 2
  have fb:=frozen9 g2.box
  have hlb:=box_lt g2.box
  go_upto_region 6 with fail
  have h3:RdH w _ S3 #[.int .i64 z0,.int .i64 z1,.int .i64 z2] #[.int .i64 0,.int .i64 0,.int .i64 0]:=g2.put 2 (.int .i64 z2) (by show 2 < 3;omega)
  clear g2 c2 fb hlb
  generalize y2.setCell ⟨w.heap.size + 2,2,none⟩ (.int .i64 z2) = X2 at *
  have kf:=h3.r.rfin
  generalize hfi:(S3.1.isEmpty && !S3.2) = fi at *
  clear hfi
  go_wp2_with fail
  refine same_mono kf ?_
  clear kf
  cases fi with
  | false =>
    have HW:Hid (R = (noH10,8)):=by rw [Hid,HC.out];rfl
    clear HC
    have d0:=box_cell h3.res 0
    have d1:=box_cell h3.res 1
    have d2:=box_cell h3.res 2
    have fb:=frozen9 h3.res
    have hlr:=box_lt h3.res
    go_wp2
    have hF:=fillH (b:=w.heap.size) (x0:=noH10) h3.res 0 0 0
    have hB9:Below w.heap.size w _:=(((h3.r.bel.setCell (p:=⟨w.heap.size,0,none⟩) (Nat.le_refl _) (.int .i64 0)).setCell (p:=⟨w.heap.size,1,none⟩) (Nat.le_refl _) (.int .i64 0)).setCell (p:=⟨w.heap.size,2,none⟩) (Nat.le_refl _) (.int .i64 0))
    refine bodyPost_ret (ret_cell9 rfl _ _ w.heap.size _ _ _ _ rfl hF Tryz.underlying30 rfl (by kernel_rfl)) rfl ⟨noH10,?_,?_,hB9⟩
    · rw [HW.out];rfl
    · rw [HW.out]
  | true =>
    have kg:=rgoodHard_any ⟨z0,z1,z2⟩ X2
    generalize hgx:goodH10 ⟨z0,z1,z2⟩ = gx at *
    clear hgx
    unfold Hard10.arr at kg
    dsimp only at kg
    have c0:=box_cell h3.box 0
    have c1:=box_cell h3.box 1
    have c2:=box_cell h3.box 2
    have hlx:=box_lt h3.box
    go_wp2_with fail
    refine kg.mono ?_
    rintro _ w5 ⟨rfl,hb5⟩
    have h5:=h3.more hb5
    clear kg h3 hb5 c0 c1 c2 hlx
    cases gx with
    | false =>
      have HW:Hid (R = (noH10,8)):=by rw [Hid,HC.out];rfl
      clear HC
      have d0:=box_cell h5.res 0
      have d1:=box_cell h5.res 1
      have d2:=box_cell h5.res 2
      have fb:=frozen9 h5.res
      have hlr:=box_lt h5.res
      go_wp2
      have hF:=fillH (b:=w.heap.size) (x0:=noH10) h5.res 0 0 0
      have hB9:Below w.heap.size w _:=(((h5.r.bel.setCell (p:=⟨w.heap.size,0,none⟩) (Nat.le_refl _) (.int .i64 0)).setCell (p:=⟨w.heap.size,1,none⟩) (Nat.le_refl _) (.int .i64 0)).setCell (p:=⟨w.heap.size,2,none⟩) (Nat.le_refl _) (.int .i64 0))
      refine bodyPost_ret (ret_cell9 rfl _ _ w.heap.size _ _ _ _ rfl hF Tryz.underlying30 rfl (by kernel_rfl)) rfl ⟨noH10,?_,?_,hB9⟩
      · rw [HW.out];rfl
      · rw [HW.out]
    | true =>
      have HW:Hid (R = (⟨z0,z1,z2⟩,0)):=by rw [Hid,HC.out];rfl
      clear HC
      have c0:=box_cell h5.box 0
      have c1:=box_cell h5.box 1
      have c2:=box_cell h5.box 2
      have d0:=box_cell h5.res 0
      have d1:=box_cell h5.res 1
      have d2:=box_cell h5.res 2
      have hlx:=box_lt h5.box
      have hlr:=box_lt h5.res
      have fb:=frozen9 h5.res
      go_wp2
      have hF:=fillH (b:=w.heap.size) (x0:=noH10) h5.res z0 z1 z2
      have hB9:Below w.heap.size w _:=(((h5.r.bel.setCell (p:=⟨w.heap.size,0,none⟩) (Nat.le_refl _) (.int .i64 z0)).setCell (p:=⟨w.heap.size,1,none⟩) (Nat.le_refl _) (.int .i64 z1)).setCell (p:=⟨w.heap.size,2,none⟩) (Nat.le_refl _) (.int .i64 z2))
      refine bodyPost_ret (ret_cell9 rfl _ _ w.heap.size _ _ _ _ rfl hF Tryz.underlying30 rfl (by kernel_rfl)) rfl ⟨⟨z0,z1,z2⟩,?_,?_,hB9⟩
      · rw [HW.out];rfl
      · rw [HW.out]
def entsV (l:List EntV):List Value:=(l.map fun x=>x.arr.toList).flatten
theorem entsV_cons (x:EntV) (l:List EntV):entsV (x :: l) = x.arr.toList++entsV l:=by simp [entsV]
theorem entsV_append (l m:List EntV):entsV (l++m) = entsV l++entsV m:=by simp [entsV]
theorem entsV_one (x:EntV):entsV [x] = x.arr.toList:=by simp [entsV]
theorem arr_len (x:EntV):x.arr.toList.length = 13:=rfl
theorem entsV_len:∀ l:List EntV,(entsV l).length = l.length * 13
  | []=>rfl
  | x :: l=>by rw [entsV_cons,List.length_append,entsV_len l,arr_len,List.length_cons];omega
theorem entsV_at:∀ {l:List EntV} {i k:Nat},i < l.length→k < 13→(entsV l)[i * 13 + k]? = (l.getD i noEV).arr[k]?
  | [],_,_,h,_=>by cases h
  | x :: l,0,k,_,hk=>by
    rw [entsV_cons,List.getElem?_append_left (by rw [arr_len];omega),List.getD_cons_zero,Nat.zero_mul,Nat.zero_add,Array.getElem?_toList]
  | x :: l,i + 1,k,h,hk=>by
    rw [entsV_cons,List.getElem?_append_right (by rw [arr_len];omega),List.getD_cons_succ,arr_len,show (i + 1) * 13 + k - 13 = i * 13 + k by omega]
    exact entsV_at (by simpa using h) hk
theorem entsV_cell (l:List EntV):∀ u ∈ entsV l,u.oneCell' = true:=by
  intro u hu
  unfold entsV at hu
  rw [List.mem_flatten] at hu
  obtain ⟨a,ha,hu⟩:=hu
  obtain ⟨x,_,rfl⟩:=List.mem_map.1 ha
  simp only [EntV.arr,List.mem_cons,List.not_mem_nil,or_false] at hu
  rcases hu with rfl | rfl | rfl | rfl | rfl | rfl | rfl | rfl | rfl | rfl | rfl | rfl | rfl <;> rfl
theorem rows_apart {w:World} {B B':Nat} {e e':TypeId} {s s' n n':Nat} {v v':Value} {xs xs':List Value} (h:w.ownsRow B e s v n xs) (h':w.ownsRow B' e' s' v' n' xs') (hne:e ≠ e'):v.ownBlock = none∨v.ownBlock ≠ v'.ownBlock:=by
  rcases h.2 with ⟨rfl,_⟩ | ⟨g,cap,cur,rfl,_,hg,_⟩
  · exact .inl rfl
  · right
    rcases h'.2 with ⟨rfl,_⟩ | ⟨g',cap',cur',rfl,_,hg',_⟩
    · intro e;cases e
    · intro e
      have e':g = g':=Option.some.inj e
      subst e'
      rw [hg] at hg'
      have:=Option.some.inj hg'
      simp only [Obj.cells.injEq] at this
      exact hne this.2.1
theorem OwnsE.app {w w':World} {B B':Nat} {x:EntV} {u:Value} {s n:Nat} {xs:List Value} (h:OwnsE w B x) (hu:w.ownsRow B' 28 s u n xs) (hg:w.grownBy w' u.ownBlock):OwnsE w' B x:=by
  refine ⟨h.i,h.t,h.k,h.c,⟨?_,?_,h.f.iu,h.f.iv,h.f.lu,h.f.lv⟩⟩
  · exact World.ownsRow.kept h.f.u hg (rows_apart h.f.u hu (by decide))
  · exact World.ownsRow.kept h.f.v hg (rows_apart h.f.v hu (by decide))
structure OwnsEs (w:World) (B:Nat) (s:Sl10) (es:List EntV):Prop where
  row:w.ownsRow B 28 13 (.slice s.p s.n s.c) es.length (entsV es)
  all:∀ e ∈ es,OwnsE w B e
theorem OwnsEs.fits {w:World} {B:Nat} {s:Sl10} {es:List EntV} (h:OwnsEs w B s es):HasE w s es:=by
  obtain ⟨p,n,c⟩:=s
  rcases h.row.2 with ⟨hv,hn⟩ | ⟨g,cap,cur,hv,hB,hg,hnc,_,_,_⟩
  · simp only [Value.slice.injEq] at hv
    obtain ⟨rfl,rfl,rfl⟩:=hv
    exact ⟨hn,Nat.le_refl _,fun _=>rfl,fun h0=>absurd h0 (Nat.lt_irrefl 0),fun e he=>(h.all e he).fits⟩
  · simp only [Value.slice.injEq] at hv
    obtain ⟨rfl,rfl,rfl⟩:=hv
    refine ⟨rfl,hnc,(fun h0=>by cases h0),fun _=>⟨g,0,rfl,(Array.getElem?_eq_some_iff.1 hg).1,fun i hi j hj=>?_⟩,fun e he=>(h.all e he).fits⟩
    have hi':i < es.length:=hi
    have hk:=entsV_at hi' hj
    have hjj:j < ((es.getD i noEV).arr).size:=hj
    rw [Array.getElem?_eq_getElem hjj] at hk ⊢
    have hc:=World.ownsRow.cells h.row (g:=g) rfl (i * 13 + j) _ hk
    rw [Addr.add_lit] at hc
    rw [Nat.zero_add] at hc ⊢
    exact hc
theorem OwnsEs.kept {w w':World} {B r:Nat} {s:Sl10} {es:List EntV} (h:OwnsEs w B s es) (hg:w.grownBy w' (some r)) (hr:r < B):OwnsEs w' B s es:=by
  refine ⟨World.ownsRow.kept h.row hg ?_,fun e he=>(h.all e he).kept hg hr⟩
  cases hv:Value.ownBlock (.slice s.p s.n s.c) with
  | none=>exact .inl rfl
  | some k =>
    have:=(World.ownsRow.lt h.row k hv).1
    exact .inr (fun e=>by cases e;omega)
theorem OwnsEs.cell {w:World} {B b:Nat} {s:Sl10} {es:List EntV} (h:OwnsEs w B s es) (hb:b < B) (i:Nat) (v:Value):OwnsEs (w.setCell ⟨b,i,none⟩ v) B s es:=h.kept (grown_set w b i v) hb
theorem row_below {w w':World} {B B':Nat} {e:TypeId} {s n:Nat} {v:Value} {xs:List Value} (h:w.ownsRow B e s v n xs) (hb:Below B' w w') (hB:w.heap.size≤B'):w'.ownsRow B e s v n xs:=by
  refine ⟨h.1,?_⟩
  rcases h.2 with hn | ⟨g,cap,cur,rfl,hb1,hg,rest⟩
  · exact .inl hn
  · refine .inr ⟨g,cap,cur,rfl,hb1,?_,rest⟩
    rw [hb.block g (Nat.lt_of_lt_of_le (Array.getElem?_eq_some_iff.1 hg).1 hB)]
    exact hg
theorem OwnsEs.below {w w':World} {B:Nat} {s:Sl10} {es:List EntV} (h:OwnsEs w B s es) (hb:Below w.heap.size w w'):OwnsEs w' B s es:=⟨row_below h.row hb (Nat.le_refl _),fun e he=>(h.all e he).below hb⟩
theorem OwnsEs.mono {w:World} {B B':Nat} {s:Sl10} {es:List EntV} (h:OwnsEs w B s es) (hB:B'≤B):OwnsEs w B' s es:=⟨row_mono h.row hB,fun e he=>(h.all e he).mono hB⟩
theorem OwnsEs.nil (w:World) (B:Nat):OwnsEs w B nilS10 []:=⟨World.ownsRow_nil w B _ 13,fun _ h=>by cases h⟩
theorem new_row (X:World) (a:Array Value) (t:TypeId):∀ j x,a.toList[j]? = some x→(X.alloc (.cells a t)).cell? ((⟨X.heap.size,0,none⟩:Addr).add j) = some x:=by
  intro j x hj
  rw [Addr.add_lit,Nat.zero_add,box_cell (heap_alloc_new X (.cells a t)) j,← Array.getElem?_toList]
  exact hj
end Go.Proofs.YtkbbhllchombdaaGreatDoor
