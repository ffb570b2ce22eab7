import Derived.Test.YtkbbhllchombdaaGreatDoorWbNTo
import Derived.Deep.RegionLaw
import Derived.Deep.Upon
import Derived.Test.YtkbbhllchombdaaGreatDoorRf1To
import Derived.Test.YtkbbhllchombdaaGreatDoorOnceTo
import Derived.Test.YtkbbhllchombdaaGreatDoorDkL0
import Derived.Test.YtkbbhllchombdaaGreatDoorWaQTo
import Derived.Test.YtkbbhllchombdaaGreatDoorDs1To
namespace Go.Proofs.YtkbbhllchombdaaGreatDoor
open Go.RowKit Go.Shelf
attribute [local go_sem ↓] ldE_exec stE_exec ldE_execI stE_execI ldE_run ldE_box stE_box ldC_exec stC_exec ldC_execI stC_execI ldC_run ldW_exec stW_exec ldW_execI stW_execI ldW_box stW_box ldR_exec stR_exec ldR_execI stR_execI ldR_box stR_box ldT_exec stT_exec ldT_execI stT_execI ldT_box ldU_exec stU_exec ldU_execI stU_execI ldH_exec stH_exec ldH_execI stH_execI ldH_run ldH_box stH_box oc_int oc_bool oc_string oc_slice oc_pointer
attribute [local go_sem ↓] bsE_exec bsE_execI bsE_run bsW_exec bsW_execI bsW_run bdE_exec bdE_execI bdE_run bdH_exec bdH_execI bdH_run bdB_exec bdB_execI bdB_run
theorem SAt.set5 {w:World} {b:Nat} {T:TypeId} {pre post:List Value} {x:StaV} (h:SAt w b T pre x post) (s:Sl10) (ys:List EntV):SAt (w.setCell ⟨b,pre.length + 5,none⟩ (.slice s.p s.n s.c)) b T pre ⟨x.i,x.t,x.h,s,ys⟩ post:=h.sets 5 [.slice s.p s.n s.c] _ (by show 5 + 1≤6;decide) rfl
theorem app_none11 (p q:Option Addr) (n c d:Nat) (hn:n≤c) (ty:TypeId) (w:World):(Builtin.append_ #[66,66] ty #[.slice p n c,.slice q 0 d]).run Tryz.prog w = .ok (.slice p n c) w:=by
  obtain ⟨i,z,hi,hz,hsize,hbytes,hzs⟩:=elemE11.info
  refine run_append_nothing w _ _ ty _ i elemE11.sl hi p n c hn _ ?_
  cases q with
  | none=>exact Src.ofNil w elemE11.sl d
  | some a=>exact Src.ofSlice w elemE11.sl a 0 d [] (by simp) (by intro _ _ h';simp at h') (by intro _ h';simp at h')
theorem step_none11 {ops:Array Oper} {o:Oper} {a:Act} {K:Act→World→Prop} {Q:Exit→Act→World→Prop} {E:Prop} (W:World) (hgd:o.guard = none) (s y:Operand)
    (ho:o.op = .call { callee:=.builtin .append,args:=#[s,y],argTypes:=#[66,66] }) (p q:Option Addr) (n c d:Nat) (hs:a.eval s = .slice p n c) (hu:a.eval y = .slice q 0 d) (hn:n≤c) (hK:K (a.put o.dst (.slice p n c)) W) :
    if Region.wanted o (yielded ops a.tmps) = true then Oper.wp Tryz.prog o a W K Q else E:=by
  have hw:Region.wanted o (yielded ops a.tmps) = true:=by simp [Region.wanted,hgd]
  rw [if_pos hw]
  have hr:=app_none11 p q n c d hn o.type W
  unfold Oper.wp execOp
  simp only [ho,resolve,invoke,builtin,Sem.run_bind,Sem.run_pure,Result.andThen_ok,List.map_toArray,List.map_cons,List.map_nil,hs,hu,hr]
  exact hK
set_option maxRecDepth 100000 in
set_option maxHeartbeats 1000000 in
theorem delete11_any (w:World) (G:Nat→Prop) (s:Sl10) (es:List EntV) (h:RowG w G s es) (k:Nat) (hk:k≤s.n) (hl:es.length≤1000000000) :
    Calls Tryz.prog 211 #[.slice s.p s.n s.c,.int .i64 (k:Nat),.int .i64 (s.n:Nat)] w fun e w'=>e = .returned (.slice s.p k s.c)∧RowG w' G ⟨s.p,k,s.c⟩ (es.take k)∧w.grownBy w' s.blk:=by
  have hn:=h.n
  have hc:=h.c
  have hl2:s.n≤1000000000:=by omega
  by_cases hkn:k = s.n
  · have HF:Hid (RowG w G ⟨s.p,k,s.c⟩ (es.take k)):=by
      rw [Hid,hkn,← hn,List.take_length,hn]
      exact h
    clear h hn hl
    subst hkn
    obtain ⟨p,n,c⟩:=s
    dsimp only at *
    have key:Calls Tryz.prog 211 #[.slice p n c,.int .i64 (n:Nat),.int .i64 (n:Nat)] w fun e w'=>e = .returned (.slice p n c)∧w' = w:=by
      cases p with
      | none =>
        go_enter Tryz.func211,Tryz.ntmps211
        go_wp2
        all_goals (go_ret;exact ⟨rfl,rfl⟩)
      | some a =>
        go_enter Tryz.func211,Tryz.ntmps211
        go_wp2
        all_goals (go_ret;exact ⟨rfl,rfl⟩)
    refine key.mono ?_
    rintro e w' ⟨rfl,rfl⟩
    exact ⟨rfl,HF.out,⟨rfl,rfl,rfl,Nat.le_refl _,fun _ _ _=>rfl⟩⟩
  · obtain ⟨g,o,a,hp,hGg,hg,hfit,hat⟩:=h.at' (by omega)
    have hD:RowG w.drew G s es:=h.stay ⟨Nat.le_refl _,fun _ _ _ _ h=>h⟩ ⟨Nat.le_refl _,fun _ _ _ _ h=>h⟩
    have hcl:=fun ty=>clearE11 hD hp (show k < s.n by omega) ty
    obtain ⟨p,n,c⟩:=s
    dsimp only at *
    subst hp
    have hkc:k≤c:=by omega
    have hkn':((k:Int) == (n:Int)) = false:=by rw [beq_eq_false_iff_ne];omega
    have hk2:k < n:=by omega
    obtain ⟨A,hA⟩:∃ A:Addr,(if c = n then some (⟨g,o,none⟩:Addr) else some ⟨g,o + n * 13,none⟩) = some A:=by split <;> exact ⟨_,rfl⟩
    obtain ⟨w2,hrun,hR2,hg2⟩:=hcl 0
    have HR2:Hid _:=hR2
    have HG2:Hid _:=hg2
    clear h hD hcl hg hfit hat hGg hR2 hg2 hn hl
    go_enter Tryz.func211,Tryz.ntmps211
    go_wp2_with fail
    go_region_law (refine step_none11 _ rfl (.tmp 22) (.tmp 25) rfl (some ⟨g,o,none⟩) (some A) k c (c - n) (by simp [Act.eval,Act.put]) (by simp [Act.eval,Act.put]) hkc ?_)
    go_wp2
    go_ret
    have h:=HG2.out
    exact ⟨rfl,HR2.out,h.os,h.tape,h.output,h.size,h.block⟩
structure Mid11 (w Z:World) (b:Nat) (T:TypeId) (pre:List Value) (x:StaV) (post:List Value) (G:Nat→Prop) (e:EntV) (P:Option Addr) (j:Nat):Prop where
  row:RowG Z G ⟨P,j,x.w.c⟩ (x.es.take j)
  ent:EntG Z G e
  sat:SAt Z b T pre x post
  box:Z.heap[w.heap.size]? = some (.cells e.arr 28 (0,0))
  turn:Turn (fun k=>k = b∨x.w.blk = some k) w Z
  size:w.heap.size + 1≤Z.heap.size
section
variable {w Z:World} {b:Nat} {T:TypeId} {pre post:List Value} {x:StaV} {G:Nat→Prop} {e:EntV} {P:Option Addr} {j:Nat}
theorem Mid11.below (h:Mid11 w Z b T pre x post G e P j) {X:World} (hb:Below Z.heap.size Z X):Mid11 w X b T pre x post G e P j :=
  ⟨h.row.stay (.of_below hb) (.of_below hb),h.ent.stay (.of_below hb),h.sat.below hb,box_below h.box hb,h.turn.trans (Turn.of_below hb (Nat.le_refl _)),Nat.le_trans h.size hb.size⟩
theorem Mid11.fin (h:Mid11 w Z b T pre x post G e P j) (hT1:T ≠ 28) (hT2:T ≠ 3) (hP:P = x.w.p) {s:Sl10} {w5:World} {ys:List EntV} (hR:RowG w5 (more8 G Z w5) s ys) (hg:Z.grownBy w5 (Sl10.blk ⟨P,j,x.w.c⟩)) :
    SAt w5 b T pre x post∧(SAt (w5.setCell ⟨b,pre.length + 5,none⟩ (.slice s.p s.n s.c)) b T pre ⟨x.i,x.t,x.h,s,ys⟩ post∧RowG (w5.setCell ⟨b,pre.length + 5,none⟩ (.slice s.p s.n s.c)) (more8 G w (w5.setCell ⟨b,pre.length + 5,none⟩ (.slice s.p s.n s.c))) s ys∧Turn (fun k=>k = b∨x.w.blk = some k) w (w5.setCell ⟨b,pre.length + 5,none⟩ (.slice s.p s.n s.c))):=by
  have hblk:(Sl10.blk ⟨P,j,x.w.c⟩) = x.w.blk:=by unfold Sl10.blk;rw [hP]
  have hS5:SAt w5 b T pre x post:=h.sat.same (hg.block b h.sat.lt fun hb=>by
    obtain ⟨_,a,ha⟩:=h.row.blk hb.symm
    have hs:=h.sat
    unfold SAt at hs
    rw [hs] at ha
    simp only [Option.some.injEq,Obj.cells.injEq] at ha
    exact hT1 ha.2.1)
  have hsz:(w5.setCell ⟨b,pre.length + 5,none⟩ (.slice s.p s.n s.c)).heap.size = w5.heap.size:=by
    simp [World.setCell]
  refine ⟨hS5,hS5.set5 s ys,?_,?_⟩
  · refine (hR.stay (Stay.of_set hS5 hT2 _) (Stay.of_set hS5 hT1 _)).mono fun k hk=>?_
    rcases hk with hk | ⟨h1,h2⟩
    · exact .inl hk
    · exact .inr ⟨Nat.le_trans h.turn.size h1,by rw [hsz];exact h2⟩
  · refine (h.turn.grown hg fun k hk=>.inl (.inr ?_)).setCell (.inl (.inl rfl)) _
    rw [← hblk]
    exact hk
end
theorem hasE_old {Z:World} {k:Nat} {e:EntV} (h:Z.heap[k]? = some (.cells e.arr 28 (0,0))):HasR Z 13 (.slice (some ⟨k,0,none⟩) 1 1) 1 e.arr.toList:=hasR_lit (e:=28) (f:=(0,0)) (by rw [Array.toArray_toList];exact h) 1 1 rfl (Nat.le_refl _)
theorem hasE_new (Z:World) (e:EntV):HasR (Z.alloc (.cells e.arr 28)) 13 (.slice (some ⟨Z.heap.size,0,none⟩) 1 1) 1 e.arr.toList:=hasE_old (heap_alloc_new Z _)
def Put11 (w:World) (b:Nat) (T:TypeId) (pre:List Value) (x:StaV) (post:List Value) (G:Nat→Prop) (e:EntV) (j:Nat) (r:Ending) (w':World):Prop :=
  (∃ v,r = .returned v)∧∃ s',SAt w' b T pre ⟨x.i,x.t,x.h,s',x.es.take j++[e]⟩ post∧RowG w' (more8 G w w') s' (x.es.take j++[e])∧Turn (fun k=>k = b∨x.w.blk = some k) w w'
theorem mid11 {w:World} {b:Nat} {T:TypeId} {pre post:List Value} {x:StaV} {G:Nat→Prop} {e:EntV} (hT1:T ≠ 28) (hS:SAt w b T pre x post) (hR:RowG w G x.w x.es) (he:EntG w G e) (hlt:∀ k,G k→k < w.heap.size) (hl:x.es.length≤999999999)
    {j:Nat} (hj:j≤x.w.n) (P:Option Addr) (hP:P = x.w.p) {W:World} (hb:Below (w.alloc (.cells e.arr 28)).heap.size (w.alloc (.cells e.arr 28)) W) (J:Int) (hJ:J = (j:Int)) :
    Calls Tryz.prog 211 #[.slice P x.w.n x.w.c,.int .i64 J,.int .i64 (x.w.n:Nat)] W fun r Z=>r = .returned (.slice P j x.w.c)∧Mid11 w Z b T pre x post G e P j∧(ldE (.pointer (some ⟨w.heap.size,0,none⟩))).run Tryz.prog Z = .ok (.agg e.arr) Z∧Z.cell? ⟨b,pre.length + 5,none⟩ = some (.slice P x.w.n x.w.c)∧w.heap.size < Z.heap.size∧b < Z.heap.size∧∀ k,w.heap.size≤k→k < W.heap.size→Z.heap[k]? = W.heap[k]?:=by
  have hB1:Below w.heap.size w (w.alloc (.cells e.arr 28)):=(Below.refl _ w).alloc (Nat.le_refl _) _
  have hbx:(w.alloc (.cells e.arr 28)).heap[w.heap.size]? = some (.cells e.arr 28 (0,0)):=heap_alloc_new w _
  have hBW:=hB1.trans (hb.mono hB1.size)
  subst hJ hP
  have hRW:=hR.stay (Y:=W) (.of_below hBW) (.of_below hBW)
  refine (delete11_any W G x.w x.es hRW j hj (by omega)).mono ?_
  rintro r Z ⟨rfl,hR2,hg2⟩
  have hnot:∀ k,w.heap.size≤k→x.w.blk ≠ some k:=fun k hk hbk=>by
    have:=hlt k (hR.blk hbk).1
    omega
  have hkeep:∀ k,w.heap.size≤k→k < W.heap.size→Z.heap[k]? = W.heap[k]?:=fun k h1 h2=>hg2.block k h2 fun h=>hnot k h1 h.symm
  have hzW:w.heap.size < W.heap.size:=Nat.lt_of_lt_of_le (box_lt hbx) hb.size
  have hboxZ:=(hkeep w.heap.size (Nat.le_refl _) hzW).trans (box_below hbx hb)
  have hSW:=hS.below hBW
  have hSZ:SAt Z b T pre x post:=hSW.same (hg2.block b hSW.lt fun hbk=>by
    obtain ⟨_,a,ha⟩:=hRW.blk hbk.symm
    unfold SAt at hSW
    rw [hSW] at ha
    simp only [Option.some.injEq,Obj.cells.injEq] at ha
    exact hT1 ha.2.1)
  have hZ:=hg2.size
  exact ⟨rfl,⟨hR2,((he.stay (Y:=W) (.of_below hBW)).stay (hRW.lists hg2)),hSZ,hboxZ,(Turn.of_below hBW (Nat.le_refl _)).grown hg2 fun k hk=>.inl (.inr hk),by omega⟩,ldE_box _ _ _ _ _ hboxZ rfl,hSZ.cells.2.2.2.2.2,by omega,hSZ.lt,hkeep⟩
noncomputable def putR4:Code:=match Tryz.f163.body with
  | some (.seq _ (.seq _ (.seq _ r)))=>r
  | _=>.skip
set_option maxRecDepth 100000 in
set_option maxHeartbeats 4000000 in
theorem putR4_any (w:World) (b:Nat) (T:TypeId) (pre post:List Value) (x:StaV) (G:Nat→Prop) (e:EntV) (hT1:T ≠ 28) (hT2:T ≠ 3) (hS:SAt w b T pre x post) (hR:RowG w G x.w x.es) (he:EntG w G e) (hlt:∀ k,G k→k < w.heap.size) (hl:x.es.length≤999999999)
    {W:World} (hb:Below (w.alloc (.cells e.arr 28)).heap.size (w.alloc (.cells e.arr 28)) W) (j:Nat) (hj:j≤x.w.n) (J:Int) (hJ:J = (j:Int)) (u5 u6 u7 u8 u9 u10 u11 u12 u13 u14 u15 u16 u17 u18 u19 u20 u21 u22 u23 u24 u25 u26 u27:Value) {Q:Exit→Act→World→Prop}
    (hQ:∀ a w',a.defers = []→Put11 w b T pre x post G e j (.returned (.tuple #[])) w'→Q .normal a w') :
    Code.wp Tryz.prog putR4 Q { tmps:=#[.pointer (some ⟨b,pre.length,none⟩),.agg e.arr,undef,.pointer (some ⟨w.heap.size,0,none⟩),.int .i64 J,u5,u6,u7,u8,u9,u10,u11,u12,u13,u14,u15,u16,u17,u18,u19,u20,u21,u22,u23,u24,u25,u26,u27,undef,undef,undef,undef,undef,undef,undef,undef,undef,undef,undef,undef,undef,undef,undef,undef,undef],defers:=[] } W:=by
  have hB1:Below w.heap.size w (w.alloc (.cells e.arr 28)):=(Below.refl _ w).alloc (Nat.le_refl _) _
  have hBW:=hB1.trans (hb.mono hB1.size)
  have hbx:W.heap[w.heap.size]? = some (.cells e.arr 28 (0,0)):=box_below (heap_alloc_new w _) hb
  have hldq:(ldE (.pointer (some ⟨w.heap.size,0,none⟩))).run Tryz.prog W = .ok (.agg e.arr) W:=ldE_box _ _ _ _ _ hbx rfl
  have hldq':(ldE (.pointer (some ⟨w.heap.size,0,none⟩))).run Tryz.prog W.drew = .ok (.agg e.arr) W.drew:=ldE_box W.drew _ _ _ _ hbx rfl
  have hSW:=hS.below hBW
  have d5q:=hSW.cells.2.2.2.2.2
  have hlbq:=hSW.lt
  have hlwq:=box_lt hbx
  have hnn:Hid (x.es.length = x.w.n):=hR.n
  have hn:x.w.n≤999999999:=by rw [← hnn.out];exact hl
  have HBQ:Hid _:=hb
  have KD:Hid (∀ (W:World) (J:Int),Below (w.alloc (.cells e.arr 28)).heap.size (w.alloc (.cells e.arr 28)) W→J = (j:Int)→Calls Tryz.prog 211 #[.slice x.w.p x.w.n x.w.c,.int .i64 J,.int .i64 (x.w.n:Nat)] W fun r Z=>r = .returned (.slice x.w.p j x.w.c)∧Mid11 w Z b T pre x post G e x.w.p j∧(ldE (.pointer (some ⟨w.heap.size,0,none⟩))).run Tryz.prog Z = .ok (.agg e.arr) Z∧Z.cell? ⟨b,pre.length + 5,none⟩ = some (.slice x.w.p x.w.n x.w.c)∧w.heap.size < Z.heap.size∧b < Z.heap.size∧∀ k,w.heap.size≤k→k < W.heap.size→Z.heap[k]? = W.heap[k]?):=fun W J h3 h4=>mid11 hT1 hS hR he hlt hl hj x.w.p rfl h3 J h4
  have HQ:Hid _:=hQ
  have HT1:Hid (T ≠ 28):=hT1
  have HT2:Hid (T ≠ 3):=hT2
  have HJ:Hid (J = (j:Int)):=hJ
  have hpl:Hid (pre.length = pre.length):=rfl
  generalize hpq:pre.length = po at *
  replace hpl:Hid (pre.length = po):=hpq
  clear hpq hS hR he hlt hl hSW hB1 hBW hbx hb hQ hT1 hT2 hJ
  generalize w.alloc (.cells e.arr 28) = W1 at *
  unfold putR4
  dsimp only [Tryz.f163]
  refine wp_region_noPanic ?_
  go_region_law (first
    | (go_simp;go_at_call 211;refine Calls.mono (KD.out _ _ (by first | exact HBQ.out | exact on_drew HBQ.out | exact (HBQ.out.alloc HBQ.out.size _) | exact ((on_drew HBQ.out).alloc HBQ.out.size _)) HJ.out) ?_;rintro _ Z ⟨rfl,hM0,hldZ,d5Z,hlwZ,hlbZ,hkZ0⟩;have hM:Hid _:=hM0;have hkZ:Hid _:=hkZ0;clear hM0 hkZ0;dsimp only)
    | (refine step_rowG _ rfl (.tmp 39) (.tmp 41) rfl G ⟨x.w.p,j,x.w.c⟩ (x.es.take j) e _ rfl rfl (by first | exact (hM.out.below ((Below.refl _ _).alloc (Nat.le_refl _) _)).row | exact hM.out.row) (by first | exact (hM.out.below ((Below.refl _ _).alloc (Nat.le_refl _) _)).ent | exact hM.out.ent) (by first | exact hasE_new _ e | exact hasE_old ((hkZ.out _ (by first | omega | (simp;omega)) (by simp)).trans (heap_alloc_new _ _))) (by rw [List.length_take,hnn.out];omega) ?_;intro s5 w5 hR5 hg5 hk5;have hFin:=Mid11.fin (by first | exact (hM.out.below ((Below.refl _ _).alloc (Nat.le_refl _) _)) | exact hM.out) HT1.out HT2.out rfl hR5 hg5;rw [hpl.out] at hFin;obtain ⟨hS5,HFin⟩:=hFin;have HFin2:Hid _:=HFin;clear HFin;have q5:w5.cell? ⟨b,po + 5,none⟩ = some _:=by { rw [← hpl.out];exact hS5.cells.2.2.2.2.2 };have fr5:w5.frozen? ⟨b,po + 5,none⟩ = false:=hS5.frozen _;clear hS5 hR5 hg5 hk5))
  all_goals
    exact NoPanic.normal (HQ.out _ _ rfl ⟨⟨_,rfl⟩,s5,HFin2.out.1,HFin2.out.2.1,HFin2.out.2.2⟩)
set_option maxRecDepth 100000 in
set_option maxHeartbeats 1000000 in
theorem putP_any (w:World) (b:Nat) (T:TypeId) (pre post:List Value) (x:StaV) (G:Nat→Prop) (e:EntV) (hT1:T ≠ 28) (hT2:T ≠ 3) (hS:SAt w b T pre x post) (hR:RowG w G x.w x.es) (he:EntG w G e) (hlt:∀ k,G k→k < w.heap.size) (hl:x.es.length≤999999999) :
    Calls Tryz.prog 163 #[.pointer (some ⟨b,pre.length,none⟩),.agg e.arr] w (Put11 w b T pre x post G e (left11 (x.es.map EntV.e) e.i)):=by
  have hB1:Below w.heap.size w (w.alloc (.cells e.arr 28)):=(Below.refl _ w).alloc (Nat.le_refl _) _
  have hbx:(w.alloc (.cells e.arr 28)).heap[w.heap.size]? = some (.cells e.arr 28 (0,0)):=heap_alloc_new w _
  have hS1:=hS.below hB1
  obtain ⟨-,-,-,-,-,c5⟩:=hS1.cells
  have hlb:=hS1.lt
  have e0:(w.alloc (.cells e.arr 28)).cell? ⟨w.heap.size,0,none⟩ = some (.int .i64 e.i):=box_cell hbx 0
  have hz1:(w.alloc (.cells e.arr 28)).heap.size = w.heap.size + 1:=by simp
  have hnn:Hid (x.es.length = x.w.n):=hR.n
  have hn:x.w.n≤999999999:=by rw [← hnn.out];exact hl
  have hcc:=hR.c
  have hE1:=hR.has.below hB1
  have HR:Hid (RowG w G x.w x.es):=hR
  have HE:Hid (EntG w G e):=he
  have HLt:Hid (∀ k,G k→k < w.heap.size):=hlt
  have HS:Hid (SAt w b T pre x post):=hS
  have HK:Hid (∀ j,j < x.w.n→∃ g o,x.w.p = some ⟨g,o,none⟩∧g < (w.alloc (.cells e.arr 28)).heap.size∧(w.alloc (.cells e.arr 28)).cell? ⟨g,o + j * 13,none⟩ = some (.int .i64 (x.es.getD j noEV).i)):=fun j hj=>hE1.idx hj
  have KR:Hid _:=fun (W:World) (hb:Below (w.alloc (.cells e.arr 28)).heap.size (w.alloc (.cells e.arr 28)) W) (j:Nat) (hj:j≤x.w.n) (J:Int) (hJ:J = (j:Int))=>putR4_any w b T pre post x G e hT1 hT2 hS hR he hlt hl hb j hj J hJ
  clear hS hR he hlt hS1 hE1 hl
  obtain ⟨L,HL⟩:∃ L,Hid (left11 (x.es.map EntV.e) e.i = L):=⟨_,rfl⟩
  rw [HL.out]
  have hpl:Hid (pre.length = pre.length):=rfl
  generalize hpq:pre.length = po at *
  replace hpl:Hid (pre.length = po):=hpq
  clear hpq
  go_enter Tryz.func163,Tryz.ntmps163
  go_wp2
  generalize w.alloc (.cells e.arr 28) = W1 at *
  go_loopw [4] (fun s4 wr=>∃ j:Nat,s4 = .int .i64 (j:Nat)∧j≤x.w.n∧Hid (leftN11 (x.es.map EntV.e) e.i x.w.n = leftN11 (x.es.map EntV.e) e.i j)∧Below W1.heap.size W1 wr) (fun s4 _=>(intOf s4).toNat)
  case atStart=>exact ⟨x.w.n,rfl,Nat.le_refl _,rfl,Below.refl _ _⟩
  case round =>
    obtain ⟨j,rfl,hj,HJ,hb⟩:=hrel
    have hsz:=hb.size
    have d5:=(hb.cell (p:=⟨b,po + 5,none⟩) hlb).trans c5
    have d0:=(hb.cell (p:=⟨w.heap.size,0,none⟩) (by show w.heap.size < _;omega)).trans e0
    have hlb':b < wr.heap.size:=by omega
    have hlw':w.heap.size < wr.heap.size:=by omega
    clear c5 e0
    have h3:(0 < j∧e.i≤(x.es.getD (j - 1) noEV).i)∨j = 0∨(0 < j∧(x.es.getD (j - 1) noEV).i < e.i):=by omega
    rcases h3 with ⟨hj0,hge⟩ | h3
    · obtain ⟨i,rfl⟩:∃ i,j = i + 1:=⟨j - 1,by omega⟩
      rw [Nat.add_sub_cancel] at hge
      obtain ⟨g,o,hp,hg,hc⟩:=HK.out i (by omega)
      have hcr:=(hb.cell (p:=⟨g,o + i * 13,none⟩) hg).trans hc
      have hg':g < wr.heap.size:=by omega
      have HJ2:Hid (leftN11 (x.es.map EntV.e) e.i x.w.n = leftN11 (x.es.map EntV.e) e.i i):=by
        rw [Hid,HJ.out,leftN11,entAt11,if_pos]
        exact hge
      rw [hp] at d5
      clear HK hc HJ
      generalize (x.es.getD i noEV).i = z at *
      have hi0:(0:Int) < (i:Int) + 1:=by omega
      go_wp2
      go_quiet (fail)
      go_wp2
      go_roundw
      case rel=>exact ⟨i,by go_num,by omega,HJ2,below_drewN hb _⟩
      case measure=>simp only [intOf];omega
    · have HF:Hid (L = j):=by
        rw [Hid,← HL.out]
        unfold left11
        rw [List.length_map,hnn.out,HJ.out]
        rcases h3 with rfl | ⟨hj0,hlt⟩
        · rfl
        · obtain ⟨i,rfl⟩:∃ i,j = i + 1:=⟨j - 1,by omega⟩
          rw [Nat.add_sub_cancel] at hlt
          rw [leftN11,entAt11,if_neg]
          show ¬ (e.i≤(x.es.getD i noEV).i)
          omega
      clear HJ
      rcases h3 with rfl | ⟨hj0,hlt⟩
      · go_wp2
        go_quiet (fail)
        go_wp2_with fail
        refine KR.out _ (below_drewN hb _) 0 hj _ rfl _ _ _ _ _ _ _ _ _ _ _ _ _ _ _ _ _ _ _ _ _ _ _ ?_
        intro a w' hd hP
        refine bodyPost_end (results_none rfl _ _ _) hd ?_
        rw [HF.out]
        exact hP
      · obtain ⟨i,rfl⟩:∃ i,j = i + 1:=⟨j - 1,by omega⟩
        rw [Nat.add_sub_cancel] at hlt
        obtain ⟨g,o,hp,hg,hc⟩:=HK.out i (by omega)
        have hcr:=(hb.cell (p:=⟨g,o + i * 13,none⟩) hg).trans hc
        have hg':g < wr.heap.size:=by omega
        have hge:¬ e.i≤(x.es.getD i noEV).i:=by omega
        have hi0:(0:Int) < (i:Int) + 1:=by omega
        generalize (x.es.getD i noEV).i = z at *
        rw [hp] at d5
        clear hp hc
        go_wp2
        go_quiet (fail)
        go_wp2_with fail
        refine KR.out _ (below_drewN hb _) (i + 1) hj _ rfl _ _ _ _ _ _ _ _ _ _ _ _ _ _ _ _ _ _ _ _ _ _ _ ?_
        intro a w' hd hP
        refine bodyPost_end (results_none rfl _ _ _) hd ?_
        rw [HF.out]
        exact hP
end Go.Proofs.YtkbbhllchombdaaGreatDoor

namespace Go.Proofs.YtkbbhllchombdaaGreatDoor
open Go.RowKit Go.Shelf
attribute [local go_sem ↓] ldE_exec stE_exec ldE_execI stE_execI ldE_run ldE_box stE_box ldC_exec stC_exec ldC_execI stC_execI ldC_run ldW_exec stW_exec ldW_execI stW_execI ldW_box stW_box ldR_exec stR_exec ldR_execI stR_execI ldR_box stR_box ldT_exec stT_exec ldT_execI stT_execI ldT_box ldU_exec stU_exec ldU_execI stU_execI ldH_exec stH_exec ldH_execI stH_execI ldH_run ldH_box stH_box oc_int oc_bool oc_string oc_slice oc_pointer
attribute [local go_sem ↓] bsE_exec bsE_execI bsE_run bsW_exec bsW_execI bsW_run bdE_exec bdE_execI bdE_run bdH_exec bdH_execI bdH_run bdB_exec bdB_execI bdB_run
def cutS (s:Sl10) (k:Nat):Sl10:=if s.c = k then ⟨s.p,0,0⟩ else ⟨s.p.map fun a=>a.add (k * 13),s.n - k,s.c - k⟩
def slE (v lo:Value):Sem Value:=Instr.sliceAt 66 v (some lo) none none
theorem slE_exec (ρ:Operand→Value) (d:Option Tmp) (x y:Operand) (t:TypeId) (p:String) (af:Array Edge) (g:Option (Nat × Bool)) (w:World):(execOp ρ { dst:=d,op:=.slice 66 x (some y) none none,type:=t,pos:=p,after:=af,guard:=g }).run Tryz.prog w = ((slE (ρ x) (ρ y)).run Tryz.prog w).andThen fun v w'=>.ok (.value v) w':=by
  unfold execOp slE
  simp only [Sem.run_bind,Sem.run_pure,Option.map_some,Option.map_none]
theorem slE_execI (ro:Option Nat) (ρ:Operand→Value) (d:Option Tmp) (x y:Operand) (t:TypeId) (p:String) (af:Array Edge) (g:Option (Nat × Bool)) (w:World):(Oper.semAt ro ρ { dst:=d,op:=.slice 66 x (some y) none none,type:=t,pos:=p,after:=af,guard:=g }).run Tryz.prog w = ((slE (ρ x) (ρ y)).run Tryz.prog w).andThen fun v w'=>.ok (.value v) w':=by
  rw [Oper.semAt_eq _ _ _ (by intro c h;cases h)]
  exact slE_exec ρ d x y t p af g w
theorem RowG.cut {w:World} {G:Nat→Prop} {s:Sl10} {es:List EntV} (h:RowG w G s es) {k:Nat} (hk:k≤s.n):RowG w G (cutS s k) (es.drop k):=by
  have hn:=h.n
  have hc:=h.c
  unfold cutS
  split
  · rename_i e
    refine ⟨by rw [List.length_drop];show es.length - k = 0;omega,Nat.le_refl _,fun _=>rfl,fun h0=>absurd h0 (Nat.lt_irrefl 0),fun e he=>h.all e (List.mem_of_mem_drop he)⟩
  · rename_i e
    have hc0:0 < s.c:=by omega
    obtain ⟨g,o,a,hp,hGg,hg,hfit,hat⟩:=h.at' hc0
    refine ⟨by rw [List.length_drop,hn],by show s.n - k≤s.c - k;omega,?_,fun _=>⟨g,o + k * 13,a,?_,hGg,hg,?_,fun i hi j hj=>?_⟩,fun e he=>h.all e (List.mem_of_mem_drop he)⟩
    · intro h0
      rw [hp] at h0
      cases h0
    · rw [hp]
      show some ((⟨g,o,none⟩:Addr).add (k * 13)) = _
      rw [Addr.add_lit]
    · show o + k * 13 + (s.c - k) * 13≤a.size
      omega
    · have hi':i < s.n - k:=hi
      rw [show o + k * 13 + i * 13 + j = o + (k + i) * 13 + j by omega,hat (k + i) (by omega) j hj,List.getD_eq_getElem?_getD,List.getD_eq_getElem?_getD,List.getElem?_drop]
attribute [local go_sem ↓] slE_exec slE_execI
def goes11 (x:StaV) (i t:Int):Nat:=if had11 x.i (x.es.map EntV.e) i t = true then goneN11 (x.es.map EntV.e) i else x.w.n
def Reb11 (w:World) (b:Nat) (T:TypeId) (pre:List Value) (x:StaV) (post:List Value) (i t:Int) (k:Nat) (r:Ending) (w':World):Prop :=
  (∃ v,r = .returned v)∧SAt w' b T pre ⟨i,t,x.h,cutS x.w k,x.es.drop k⟩ post∧Turn (fun k=>k = b) w w'
theorem gone_len (es:List Ent10) (x:Int):goneN11 es x≤es.length:=(List.takeWhile_prefix _).length_le
theorem gone_step {es:List Ent10} {x:Int} {j:Nat} (h:∀ k,k < j→(es.getD k noE10).i≤x) (hj:j≤es.length) (hs:j = es.length∨x < (es.getD j noE10).i):goneN11 es x = j:=by
  unfold goneN11
  induction es generalizing j with
  | nil => have : j = 0 := by simpa using hj
           subst this;rfl
  | cons e l ih =>
    cases j with
    | zero =>
      rcases hs with hs | hs
      · simp at hs
      · have:¬ e.i≤x:=by
          rw [List.getD_cons_zero] at hs
          omega
        rw [List.takeWhile_cons_of_neg (by simpa using this)]
        rfl
    | succ j =>
      have h0:=h 0 (by omega)
      rw [List.getD_cons_zero] at h0
      rw [List.takeWhile_cons_of_pos (by simpa using h0),List.length_cons]
      congr 1
      refine ih (fun k hk=>by have:=h (k + 1) (by omega);rwa [List.getD_cons_succ] at this) (by simpa using hj) ?_
      rw [List.getD_cons_succ] at hs
      simpa using hs
noncomputable def rebR7:Code:=match Tryz.f164.body with
  | some (.seq _ (.seq _ (.seq _ r)))=>r
  | _=>.skip
theorem Reb11.drew {w:World} {b:Nat} {T:TypeId} {pre post:List Value} {x:StaV} {i t:Int} {k:Nat} {r:Ending} {w':World} (h:Reb11 w b T pre x post i t k r w'):Reb11 w b T pre x post i t k r w'.drew:=⟨h.1,h.2.1,h.2.2.drew⟩
theorem cutS_some {s:Sl10} {g o k:Nat} {A:Addr} (hp:s.p = some ⟨g,o,none⟩) (hk:k≤s.n) (hc:s.n≤s.c) (hA:(if s.c = k then some (⟨g,o,none⟩:Addr) else some ⟨g,o + k * 13,none⟩) = some A):cutS s k = ⟨some A,s.n - k,s.c - k⟩:=by
  unfold cutS
  split at hA
  · rename_i e
    rw [if_pos e,hp,← hA]
    congr 1 <;> omega
  · rename_i e
    rw [if_neg e,hp,← hA]
    show (⟨some ((⟨g,o,none⟩:Addr).add (k * 13)),_,_⟩:Sl10) = _
    rw [Addr.add_lit]
set_option maxRecDepth 100000 in
set_option maxHeartbeats 4000000 in
theorem rebR7_any (w:World) (b:Nat) (T:TypeId) (pre post:List Value) (x:StaV) (i t:Int) (hS:SAt w b T pre x post) (hE:HasE w x.w x.es) (hat:0 < x.w.c→∃ g o,x.w.p = some ⟨g,o,none⟩) (hl:x.es.length≤1000000000) {W:World} (hb:Below w.heap.size w W) (k:Nat) (hk:k≤x.w.n) (u3 u4 u5 u7 u8 u9 u10 u11 u12 u13 u14 u15 u16 u17 u18 u19 u20 u21 u22 u23 u24 u25 u26 u27 u28 u29 u30 u31 u32 u33 u34 u35 u36 u37 u38 u39 u40 u41 u42 u43 u44 u45 u46 u47 u48 u49 u50 u51 u52 u53 u54 u55 u56 u57 u58 u59 u60 u61 u62 u63 u64 u65 u66 u67 u68 u69 u70 u71 u72 u73 u74 u75 u76 u77 u78 u79:Value) {Q:Exit→Act→World→Prop}
    (hQ:∀ a w',a.defers = []→Reb11 w b T pre x post i t k (.returned (.tuple #[])) w'→Q .normal a w') :
    Code.wp Tryz.prog rebR7 Q { tmps:=#[.pointer (some ⟨b,pre.length,none⟩),.int .i64 i,.int .i64 t,u3,u4,u5,.int .i64 (k:Nat),u7,u8,u9,u10,u11,u12,u13,u14,u15,u16,u17,u18,u19,u20,u21,u22,u23,u24,u25,u26,u27,u28,u29,u30,u31,u32,u33,u34,u35,u36,u37,u38,u39,u40,u41,u42,u43,u44,u45,u46,u47,u48,u49,u50,u51,u52,u53,u54,u55,u56,u57,u58,u59,u60,u61,u62,u63,u64,u65,u66,u67,u68,u69,u70,u71,u72,u73,u74,u75,u76,u77,u78,u79],defers:=[] } W:=by
  have hSW:=hS.below hb
  obtain ⟨c0,c1,-,-,-,c5⟩:=hSW.cells
  have f0:=hSW.frozen pre.length
  have f1:=hSW.frozen (pre.length + 1)
  have f5:=hSW.frozen (pre.length + 5)
  have hlb:=hSW.lt
  have hcc:=hE.c
  have hn:x.w.n≤1000000000:=by rw [← hE.n];exact hl
  have hnl:=hE.nl
  have HAt:Hid _:=hat
  have HFin:Hid (∀ v:Value,v = .slice (cutS x.w k).p (cutS x.w k).n (cutS x.w k).c→Reb11 w b T pre x post i t k (.returned (.tuple #[])) (((W.setCell ⟨b,pre.length,none⟩ (.int .i64 i)).setCell ⟨b,pre.length + 1,none⟩ (.int .i64 t)).setCell ⟨b,pre.length + 5,none⟩ v)):=by
    intro v e
    subst e
    have h1:SAt (W.setCell ⟨b,pre.length,none⟩ (.int .i64 i)) b T pre ⟨i,x.t,x.h,x.w,x.es⟩ post:=hSW.sets 0 [.int .i64 i] _ (by show 0 + 1≤6;decide) rfl
    have h2:SAt ((W.setCell ⟨b,pre.length,none⟩ (.int .i64 i)).setCell ⟨b,pre.length + 1,none⟩ (.int .i64 t)) b T pre ⟨i,t,x.h,x.w,x.es⟩ post:=h1.sets 1 [.int .i64 t] _ (by show 1 + 1≤6;decide) rfl
    have t1:Turn (fun k=>k = b) w W:=Turn.of_below hb (Nat.le_refl _)
    have t2:=t1.setCell (p:=⟨b,pre.length,none⟩) (.inl rfl) (.int .i64 i)
    have t3:=t2.setCell (p:=⟨b,pre.length + 1,none⟩) (.inl rfl) (.int .i64 t)
    have t4:=t3.setCell (p:=⟨b,pre.length + 5,none⟩) (.inl rfl) (.slice (cutS x.w k).p (cutS x.w k).n (cutS x.w k).c)
    exact ⟨⟨_,rfl⟩,h2.set5 (cutS x.w k) (x.es.drop k),t4⟩
  have HQ:Hid _:=hQ
  have HC:Hid (∀ g o A,x.w.p = some ⟨g,o,none⟩→(if x.w.c = k then some (⟨g,o,none⟩:Addr) else some ⟨g,o + k * 13,none⟩) = some A→cutS x.w k = ⟨some A,x.w.n - k,x.w.c - k⟩):=fun g o A hp hA=>cutS_some hp hk hcc hA
  have HN:Hid (x.w.p = none→x.w.c = 0):=hnl
  have HCN:Hid (x.w.c = k→cutS x.w k = ⟨x.w.p,0,0⟩):=fun h=>if_pos h
  clear hS hSW hE hl hb hQ hnl hat
  generalize pre.length = po at *
  generalize hy:cutS x.w k = y at *
  clear hy
  obtain ⟨xi,xt,xh,⟨p,n,c⟩,es⟩:=x
  dsimp only at *
  unfold rebR7
  dsimp only [Tryz.f164]
  refine wp_region_noPanic ?_
  by_cases hc0:c = 0
  · subst hc0
    obtain rfl:n = 0:=by omega
    obtain rfl:k = 0:=by omega
    have e:=HCN.out rfl
    subst e
    clear HC HN HCN HAt
    cases p with
    | none =>
      go_region_law (fail)
      all_goals
        exact NoPanic.normal (HQ.out _ _ rfl (by first | exact HFin.out _ rfl | exact (HFin.out _ rfl).drew | exact ((HFin.out _ rfl).drew).drew))
    | some a =>
      go_region_law (fail)
      all_goals
        exact NoPanic.normal (HQ.out _ _ rfl (by first | exact HFin.out _ rfl | exact (HFin.out _ rfl).drew | exact ((HFin.out _ rfl).drew).drew))
  · obtain ⟨g,o,rfl⟩:=HAt.out (by omega)
    obtain ⟨A,hA⟩:∃ A:Addr,(if c = k then some (⟨g,o,none⟩:Addr) else some ⟨g,o + k * 13,none⟩) = some A:=by split <;> exact ⟨_,rfl⟩
    have e:=HC.out g o A rfl hA
    subst e
    have hkc:k≤c:=by omega
    clear HC HN HCN HAt
    go_region_law (fail)
    all_goals
      exact NoPanic.normal (HQ.out _ _ rfl (by first | exact HFin.out _ rfl | exact (HFin.out _ rfl).drew | exact ((HFin.out _ rfl).drew).drew))
set_option maxRecDepth 100000 in
set_option maxHeartbeats 1000000 in
theorem rebaseP_any (w:World) (b:Nat) (T:TypeId) (pre post:List Value) (x:StaV) (i t:Int) (hS:SAt w b T pre x post) (hE:HasE w x.w x.es) (hat:0 < x.w.c→∃ g o,x.w.p = some ⟨g,o,none⟩) (hl:x.es.length≤1000000000) :
    Calls Tryz.prog 164 #[.pointer (some ⟨b,pre.length,none⟩),.int .i64 i,.int .i64 t] w (Reb11 w b T pre x post i t (goes11 x i t)):=by
  obtain ⟨c0,c1,-,-,-,c5⟩:=hS.cells
  have hlb:=hS.lt
  have hnn:Hid (x.es.length = x.w.n):=hE.n
  have hn:x.w.n≤1000000000:=by rw [← hnn.out];exact hl
  have hcc:=hE.c
  obtain ⟨L,HL⟩:∃ L,Hid (goes11 x i t = L):=⟨_,rfl⟩
  rw [HL.out]
  have HE:Hid (HasE w x.w x.es):=hE
  have HS:Hid (SAt w b T pre x post):=hS
  have KR:Hid _:=fun (W:World) (hb:Below w.heap.size w W) (k:Nat) (hk:k≤x.w.n)=>rebR7_any w b T pre post x i t hS hE hat hl hb k hk
  clear hS hE hat hl
  generalize pre.length = po at *
  go_enter Tryz.func164,Tryz.ntmps164
  go_wp2
  go_quiet (fail)
  go_wp2
  have hb0:Below w.heap.size w (w.drewN nq):=below_drewN (Below.refl _ _) _
  go_loopw [6,7] (fun s6 s7 wr=>∃ (j:Nat) (hd:Bool),s6 = .int .i64 (j:Nat)∧s7 = .bool hd∧j≤x.w.n∧Hid (hd = (decide (i = x.i) || ((x.es.map EntV.e).take j).any (isAt11 i t)))∧Hid (∀ k,k < j→((x.es.map EntV.e).getD k noE10).i≤i)∧Below w.heap.size w wr) (fun s6 _ _=>x.w.n - (intOf s6).toNat)
  case atStart=>exact ⟨0,_,rfl,rfl,Nat.zero_le _,(by rw [Hid,List.take_zero,List.any_nil,Bool.or_false];first | rfl | (rw [Bool.eq_iff_iff];simp)),(fun k hk=>absurd hk (Nat.not_lt_zero k)),hb0⟩
  case round =>
    clear hb0
    obtain ⟨j,hd,rfl,rfl,hj,HH,HA,hb⟩:=hrel
    have hsz:=hb.size
    have d0:=(hb.cell (p:=⟨b,po,none⟩) hlb).trans c0
    have d5:=(hb.cell (p:=⟨b,po + 5,none⟩) hlb).trans c5
    have d1:=(hb.cell (p:=⟨b,po + 1,none⟩) hlb).trans c1
    have hlb':b < wr.heap.size:=by omega
    clear c0 c1 c5
    have h3:(j < x.w.n∧(x.es.getD j noEV).i≤i)∨j = x.w.n∨(j < x.w.n∧i < (x.es.getD j noEV).i):=by omega
    rcases h3 with ⟨hjn,hle⟩ | h3
    · obtain ⟨g,o,hp,hg,hld⟩:=(HE.out.below hb).ld hjn
      obtain ⟨g',o',hp',-,hidx⟩:=(HE.out.below hb).idx hjn
      rw [hp] at hp'
      cases hp'
      have HA2:Hid (∀ k,k < j + 1→((x.es.map EntV.e).getD k noE10).i≤i):=fun k hk=>by
        rcases Nat.lt_or_ge k j with h | h
        · exact HA.out k h
        · obtain rfl:k = j:=by omega
          rw [entAt11];exact hle
      have HH2:Hid (∀ q:Bool,q = (hd || isAt11 i t (x.es.getD j noEV).e)→q = (decide (i = x.i) || ((x.es.map EntV.e).take (j + 1)).any (isAt11 i t))):=fun q hq=>by
        rw [hq,HH.out,← List.map_take,← List.map_take,take_snocE (by rw [hnn.out];exact hjn),List.map_append,List.any_append,← Bool.or_assoc]
        simp
      rw [hp] at d5
      have HAt:Hid (isAt11 i t (x.es.getD j noEV).e = (decide ((x.es.getD j noEV).i = i) && decide ((x.es.getD j noEV).t = t))):=rfl
      have hb1:Below wr.heap.size wr (wr.alloc (.cells #[.int .i64 0,.int .i64 0,.int .i64 0,.int .i64 0,.int .i64 0,.int .i64 0,.string ⟨#[]⟩,.string ⟨#[]⟩,.string ⟨#[]⟩,.string ⟨#[]⟩,.int .i64 0,.slice none 0 0,.slice none 0 0] 28)):=(Below.refl _ _).alloc (Nat.le_refl _) _
      have hbE:=heap_alloc_new wr (.cells #[.int .i64 0,.int .i64 0,.int .i64 0,.int .i64 0,.int .i64 0,.int .i64 0,.string ⟨#[]⟩,.string ⟨#[]⟩,.string ⟨#[]⟩,.string ⟨#[]⟩,.int .i64 0,.slice none 0 0,.slice none 0 0] 28)
      have hth:=there_box hbE 0 13 (Nat.le_refl _)
      have hst:=stE_arr 0 (x.es.getD j noEV) hth
      have hbE2:=setE_box (x.es.getD j noEV) hbE rfl
      have hB2:Below w.heap.size w ((wr.alloc (.cells #[.int .i64 0,.int .i64 0,.int .i64 0,.int .i64 0,.int .i64 0,.int .i64 0,.string ⟨#[]⟩,.string ⟨#[]⟩,.string ⟨#[]⟩,.string ⟨#[]⟩,.int .i64 0,.slice none 0 0,.slice none 0 0] 28)).setCells wr.heap.size 0 (x.es.getD j noEV).arr.toList):=hb.trans ((setCells_below (Nat.le_refl _) _ _ hb1).mono hsz)
      have b0:=box_cell hbE2 0
      have b1:=box_cell hbE2 1
      have hl2:=box_lt hbE2
      generalize x.es.getD j noEV = e at *
      replace b0:((wr.alloc (.cells #[.int .i64 0,.int .i64 0,.int .i64 0,.int .i64 0,.int .i64 0,.int .i64 0,.string ⟨#[]⟩,.string ⟨#[]⟩,.string ⟨#[]⟩,.string ⟨#[]⟩,.int .i64 0,.slice none 0 0,.slice none 0 0] 28)).setCells wr.heap.size 0 e.arr.toList).cell? ⟨wr.heap.size,0,none⟩ = some (.int .i64 e.i):=b0
      replace b1:((wr.alloc (.cells #[.int .i64 0,.int .i64 0,.int .i64 0,.int .i64 0,.int .i64 0,.int .i64 0,.string ⟨#[]⟩,.string ⟨#[]⟩,.string ⟨#[]⟩,.string ⟨#[]⟩,.int .i64 0,.slice none 0 0,.slice none 0 0] 28)).setCells wr.heap.size 0 e.arr.toList).cell? ⟨wr.heap.size,1,none⟩ = some (.int .i64 e.t):=b1
      have HB2:Hid _:=hB2
      clear hb1 hbE hbE2 hB2 HH HA HE HS KR hb
      cases hd with
      | true =>
        go_wp2
        go_roundw
        case rel=>exact ⟨j + 1,true,by go_num,rfl,by omega,HH2.out true (by simp),HA2,HB2.out⟩
        case measure=>simp only [intOf];omega
      | false =>
        by_cases he:e.i = i
        · have he1:(e.i == i) = true:=by simpa using he
          go_wp2
          go_roundw
          case rel=>exact ⟨j + 1,_,by go_num,rfl,by omega,HH2.out _ (by rw [HAt.out,decide_eq_true he,Bool.false_or,Bool.true_and];first | rfl | (rw [Bool.eq_iff_iff];simp)),HA2,HB2.out⟩
          case measure=>simp only [intOf];omega
        · have he1:(e.i == i) = false:=by simpa using he
          go_wp2
          go_roundw
          case rel=>exact ⟨j + 1,false,by go_num,rfl,by omega,HH2.out false (by rw [HAt.out,decide_eq_false he];rfl),HA2,HB2.out⟩
          case measure=>simp only [intOf];omega
    · have HG:Hid (goneN11 (x.es.map EntV.e) i = j):=by
        refine gone_step HA.out (by rw [List.length_map,hnn.out];exact hj) ?_
        rcases h3 with h | ⟨_,h⟩
        · exact .inl (by rw [List.length_map,hnn.out];exact h)
        · exact .inr (by rw [entAt11];exact h)
      rcases h3 with rfl | ⟨hjn,hgt⟩
      · clear HE HA
        cases hd with
        | true =>
          have HF:Hid (L = x.w.n):=by
            rw [Hid,← HL.out]
            unfold goes11 had11
            rw [HG.out,← HH.out]
            exact if_pos rfl
          go_wp2
          refine KR.out _ (by first | exact hb | exact below_drewN hb _) _ (by first | exact hj | exact Nat.le_refl _) _ _ _ _ _ _ _ _ _ _ _ _ _ _ _ _ _ _ _ _ _ _ _ _ _ _ _ _ _ _ _ _ _ _ _ _ _ _ _ _ _ _ _ _ _ _ _ _ _ _ _ _ _ _ _ _ _ _ _ _ _ _ _ _ _ _ _ _ _ _ _ _ _ _ _ _ ?_
          intro a w' hdf hP
          refine bodyPost_end (results_none rfl _ _ _) hdf ?_
          rw [HF.out]
          exact hP
        | false =>
          have HF:Hid (L = x.w.n):=by
            rw [Hid,← HL.out]
            unfold goes11 had11
            rw [HG.out,← HH.out]
            exact if_neg (by decide)
          go_wp2
          refine KR.out _ (by first | exact hb | exact below_drewN hb _) _ (by first | exact hj | exact Nat.le_refl _) _ _ _ _ _ _ _ _ _ _ _ _ _ _ _ _ _ _ _ _ _ _ _ _ _ _ _ _ _ _ _ _ _ _ _ _ _ _ _ _ _ _ _ _ _ _ _ _ _ _ _ _ _ _ _ _ _ _ _ _ _ _ _ _ _ _ _ _ _ _ _ _ _ _ _ _ ?_
          intro a w' hdf hP
          refine bodyPost_end (results_none rfl _ _ _) hdf ?_
          rw [HF.out]
          exact hP
      · obtain ⟨g,o,hp,hg,hidx⟩:=(HE.out.below hb).idx hjn
        have hgt':¬ (x.es.getD j noEV).i≤i:=by omega
        rw [hp] at d5
        generalize (x.es.getD j noEV).i = z at *
        clear HE HA
        cases hd with
        | true =>
          have HF:Hid (L = j):=by
            rw [Hid,← HL.out]
            unfold goes11 had11
            rw [HG.out,← HH.out]
            exact if_pos rfl
          go_wp2
          refine KR.out _ (by first | exact hb | exact below_drewN hb _) _ (by first | exact hj | exact Nat.le_refl _) _ _ _ _ _ _ _ _ _ _ _ _ _ _ _ _ _ _ _ _ _ _ _ _ _ _ _ _ _ _ _ _ _ _ _ _ _ _ _ _ _ _ _ _ _ _ _ _ _ _ _ _ _ _ _ _ _ _ _ _ _ _ _ _ _ _ _ _ _ _ _ _ _ _ _ _ ?_
          intro a w' hdf hP
          refine bodyPost_end (results_none rfl _ _ _) hdf ?_
          rw [HF.out]
          exact hP
        | false =>
          have HF:Hid (L = x.w.n):=by
            rw [Hid,← HL.out]
            unfold goes11 had11
            rw [HG.out,← HH.out]
            exact if_neg (by decide)
          go_wp2
          refine KR.out _ (by first | exact hb | exact below_drewN hb _) _ (by first | exact hj | exact Nat.le_refl _) _ _ _ _ _ _ _ _ _ _ _ _ _ _ _ _ _ _ _ _ _ _ _ _ _ _ _ _ _ _ _ _ _ _ _ _ _ _ _ _ _ _ _ _ _ _ _ _ _ _ _ _ _ _ _ _ _ _ _ _ _ _ _ _ _ _ _ _ _ _ _ _ _ _ _ _ ?_
          intro a w' hdf hP
          refine bodyPost_end (results_none rfl _ _ _) hdf ?_
          rw [HF.out]
          exact hP
end Go.Proofs.YtkbbhllchombdaaGreatDoor

namespace Go.Proofs.YtkbbhllchombdaaGreatDoor
open Go.RowKit Go.Shelf
attribute [local go_sem ↓] ldE_exec stE_exec ldE_execI stE_execI ldE_run ldE_box stE_box ldC_exec stC_exec ldC_execI stC_execI ldC_run ldW_exec stW_exec ldW_execI stW_execI ldW_box stW_box ldR_exec stR_exec ldR_execI stR_execI ldR_box stR_box ldT_exec stT_exec ldT_execI stT_execI ldT_box ldU_exec stU_exec ldU_execI stU_execI ldH_exec stH_exec ldH_execI stH_execI ldH_run ldH_box stH_box oc_int oc_bool oc_string oc_slice oc_pointer
attribute [local go_sem ↓] bsE_exec bsE_execI bsE_run bsW_exec bsW_execI bsW_run bdE_exec bdE_execI bdE_run bdH_exec bdH_execI bdH_run bdB_exec bdB_execI bdB_run
structure StaG (w:World) (G:Nat→Prop) (x:StaV):Prop where
  i:inI x.i
  t:inI x.t
  h:FitsH x.h
  row:RowG w G x.w x.es
theorem StaG.stay {X Y:World} {G:Nat→Prop} {x:StaV} (h:StaG X G x) (k1:Stay G 3 X Y) (k2:Stay G 28 X Y):StaG Y G x:=⟨h.i,h.t,h.h,h.row.stay k1 k2⟩
theorem StaG.mono {X:World} {G H:Nat→Prop} {x:StaV} (h:StaG X G x) (hg:∀ k,G k→H k):StaG X H x:=⟨h.i,h.t,h.h,h.row.mono hg⟩
theorem StaG.nil (X:World) (G:Nat→Prop):StaG X G noTV:=⟨in0,in0,⟨in0,in0,in0⟩,RowG.nil X G⟩
theorem RowG.addr {w:World} {G:Nat→Prop} {s:Sl10} {es:List EntV} (h:RowG w G s es) (h0:0 < s.c):∃ g o,s.p = some ⟨g,o,none⟩:=by
  obtain ⟨g,o,_,hp,_⟩:=h.at' h0
  exact ⟨g,o,hp⟩
theorem ldH_in {w:World} {b:Nat} {x:RecV} {t:TypeId} {fr:Nat × Nat} (h:w.heap[b]? = some (.cells x.arr t fr)):(ldH (.pointer (some ⟨b,14,none⟩))).run Tryz.prog w = .ok (.agg x.h.arr) w:=by
  refine (run_loadAt_mid w b 14 30 x.h.arr.toList _ (fun i v hi=>?_) Tryz.underlying30 rfl (by show _ = some 3;kernel_rfl)).trans (by rw [Array.toArray_toList])
  have hi3:i < 3:=(List.getElem?_eq_some_iff.1 hi).1
  rw [box_cell h (14 + i),← hi,Array.getElem?_toList]
  rcases i with _ | _ | _ | i <;> first | rfl | omega
theorem harr_cell (x:Hard10):∀ u ∈ x.arr.toList,u.oneCell' = true:=by
  intro u hu
  unfold Hard10.arr at hu
  simp only [List.mem_cons,List.not_mem_nil,or_false] at hu
  rcases hu with rfl | rfl | rfl <;> rfl
theorem stH_arr {w:World} {b:Nat} (o:Nat) (x:Hard10) (h:w.there b o 3):(stH (.pointer (some ⟨b,o,none⟩)) (.agg x.arr)).run Tryz.prog w = .ok () (w.setCells b o x.arr.toList):=by
  refine run_storeAt_mid w b o 30 x.arr h (by show _ = some 3;kernel_rfl) ?_
  have:=all_oneCell_toArray (cs:=x.arr.toList) (harr_cell x)
  rwa [Array.toArray_toList] at this
theorem SAt.there {w:World} {b:Nat} {T:TypeId} {pre post:List Value} {x:StaV} (h:SAt w b T pre x post) (j n:Nat) (hn:j + n≤6):w.there b (pre.length + j) n:=there_box h _ _ (by
  have:x.arr.toList.length = 6:=rfl
  simp only [List.size_toArray,List.length_append]
  omega)
theorem more_more {G:Nat→Prop} {X Y Z:World} (h:X.heap.size≤Y.heap.size):∀ k,more8 G Y Z k→more8 G X Z k:=fun k hk=>by
  rcases hk with hk | ⟨h1,h2⟩
  · exact .inl hk
  · exact .inr ⟨by omega,h2⟩
def Fold11 (w:World) (b:Nat) (T:TypeId) (pre:List Value) (x:StaV) (post:List Value) (G:Nat→Prop) (rv:RecV) (r:Ending) (w':World):Prop :=
  r = .returned (.bool (pfold11 x.s rv.r).2)∧∃ x',SAt w' b T pre x' post∧x'.s = (pfold11 x.s rv.r).1∧StaG w' (more8 G w w') x'∧Turn (fun k=>k = b∨rv.k = 1∧x.w.blk = some k) w w'
theorem stay_box {X Y:World} {G:Nat→Prop} {b:Nat} {T t:TypeId} {a:Array Value} (ht:Turn (fun k=>k = b) X Y) (hb:X.heap[b]? = some (.cells a T (0,0))) (hne:T ≠ t):Stay G t X Y :=
  ⟨ht.size,fun k c fr _ hk=>(ht.block k (box_lt hk) (fun e=>by
    rw [e,hb] at hk
    simp only [Option.some.injEq,Obj.cells.injEq] at hk
    exact hne hk.2.1)).trans hk⟩
set_option maxRecDepth 100000 in
set_option maxHeartbeats 1000000 in
theorem foldP_any (w:World) (b:Nat) (T:TypeId) (pre post:List Value) (x:StaV) (G:Nat→Prop) (rv:RecV) (hT1:T ≠ 28) (hT2:T ≠ 3) (hS:SAt w b T pre x post) (hR:StaG w G x) (hrv:RecG w G rv) (hlt:∀ k,G k→k < w.heap.size) (hl:x.es.length≤999999999) :
    Calls Tryz.prog 91 #[.pointer (some ⟨b,pre.length,none⟩),.agg rv.arr] w (Fold11 w b T pre x post G rv):=by
  have hB1:Below w.heap.size w (w.alloc (.cells rv.arr 32)):=(Below.refl _ w).alloc (Nat.le_refl _) _
  have hbx:(w.alloc (.cells rv.arr 32)).heap[w.heap.size]? = some (.cells rv.arr 32 (0,0)):=heap_alloc_new w _
  have hS1:=hS.below hB1
  have KY:Hid (∀ A,Below (w.alloc (.cells rv.arr 32)).heap.size (w.alloc (.cells rv.arr 32)) A→(A.cell? ⟨b,pre.length,none⟩ = some (.int .i64 x.i)∧(ldW (.pointer (some ⟨w.heap.size,0,none⟩))).run Tryz.prog A = .ok (.agg rv.arr) A∧Below (w.alloc (.cells rv.arr 32)).heap.size (w.alloc (.cells rv.arr 32)) A)):=fun A h=>⟨(hS1.below h).cells.1,ldW_box A _ _ _ _ (box_below hbx h) rfl,h⟩
  have KX:Hid (∀ A B,(A.cell? ⟨b,pre.length,none⟩ = some (.int .i64 x.i)∧(ldW (.pointer (some ⟨w.heap.size,0,none⟩))).run Tryz.prog A = .ok (.agg rv.arr) A∧Below (w.alloc (.cells rv.arr 32)).heap.size (w.alloc (.cells rv.arr 32)) A)→Below A.heap.size A B→(B.cell? ⟨b,pre.length,none⟩ = some (.int .i64 x.i)∧(ldW (.pointer (some ⟨w.heap.size,0,none⟩))).run Tryz.prog B = .ok (.agg rv.arr) B∧Below (w.alloc (.cells rv.arr 32)).heap.size (w.alloc (.cells rv.arr 32)) B)):=fun A B h hb=>KY.out B (h.2.2.trans (hb.mono h.2.2.size))
  have KB:Hid (∀ A,(A.cell? ⟨b,pre.length,none⟩ = some (.int .i64 x.i)∧(ldW (.pointer (some ⟨w.heap.size,0,none⟩))).run Tryz.prog A = .ok (.agg rv.arr) A∧Below (w.alloc (.cells rv.arr 32)).heap.size (w.alloc (.cells rv.arr 32)) A)→Below (w.alloc (.cells rv.arr 32)).heap.size (w.alloc (.cells rv.arr 32)) A):=fun A h=>h.2.2
  have KL:Hid (∀ W,Below (w.alloc (.cells rv.arr 32)).heap.size (w.alloc (.cells rv.arr 32)) W→Calls Tryz.prog 162 #[.pointer (some ⟨b,pre.length,none⟩)] W fun e w'=>e = .returned (.int .i64 (last11 x.s))∧Below W.heap.size W w'):=fun W h=>lastP_any W b T pre post x (hS1.below h) ((hR.row.has.below hB1).below h) (by omega)
  have KT:Hid (∀ W,Calls Tryz.prog 161 #[.int .i64 x.i,.int .i64 (last11 x.s),.agg rv.arr] W fun e w'=>e = .returned (.bool (takes11 x.i (last11 x.s) rv.r))∧Below W.heap.size W w'):=fun W=>takesP_any W rv x.i (last11 x.s) hR.i hrv.e.i
  have s0:=KY.out (w.alloc (.cells rv.arr 32)).drew (on_drew (Below.refl _ _))
  have HP:Hid (pfold11 x.s rv.r = if takes11 x.i (last11 x.s) rv.r = true then (if rv.k = 1 then (⟨x.i,x.t,x.h,(x.es.map EntV.e).take (left11 (x.es.map EntV.e) rv.e.i)++[rv.e.e]⟩:Sta11) else if rv.k = 2 then ⟨x.i,x.t,rv.h,x.es.map EntV.e⟩ else ⟨rv.i,rv.t,x.h,if had11 x.i (x.es.map EntV.e) rv.i rv.t = true then (x.es.map EntV.e).drop (goneN11 (x.es.map EntV.e) rv.i) else []⟩,true) else (x.s,false)):=rfl
  have HTk:Hid (takes11 x.i (last11 x.s) rv.r = true→rv.k = 1∨rv.k = 2∨rv.k = 3):=fun h=>by
    unfold takes11 at h
    split at h
    · rename_i e;exact .inl e
    split at h
    · rename_i e;exact .inr (.inl e)
    split at h
    · rename_i e;exact .inr (.inr e)
    · cases h
  have HS:Hid _:=hS
  have HR:Hid _:=hR
  have HV:Hid _:=hrv
  have HLt:Hid _:=hlt
  have HT1:Hid (T ≠ 28):=hT1
  have HT2:Hid (T ≠ 3):=hT2
  have HBx:Hid _:=hbx
  have HB1:Hid _:=hB1
  clear hS hR hrv hlt hT1 hT2 hS1 hbx hB1
  have hpl:Hid (pre.length = pre.length):=rfl
  generalize hpq:pre.length = po at *
  replace hpl:Hid (pre.length = po):=hpq
  clear hpq
  generalize takes11 x.i (last11 x.s) rv.r = tk at *
  go_enter Tryz.func91,Tryz.ntmps91
  go_wp2_with fail
  generalize w.alloc (.cells rv.arr 32) = W1 at *
  go_region_held3 (fun w'=>w'.cell? ⟨b,po,none⟩ = some (.int .i64 x.i)∧(ldW (.pointer (some ⟨w.heap.size,0,none⟩))).run Tryz.prog w' = .ok (.agg rv.arr) w'∧Below W1.heap.size W1 w')
    (first | (with_reducible exact s0) | (with_reducible assumption) | (with_reducible exact KX.out _ _ (by assumption) (by assumption)))
    (first
      | (go_at_call 162;(with_reducible refine Calls.mono (KL.out _ (KB.out _ (by assumption))) ?_);rintro _ g1 ⟨rfl,hc1⟩)
      | (go_at_call 161;(with_reducible refine Calls.mono (KT.out _) ?_);rintro _ g2 ⟨rfl,hc2⟩;have hfin:=KB.out _ (KX.out _ _ (by assumption) hc2)))
  have hBW:=HB1.out.trans (hfin.mono HB1.out.size)
  have hbg:=box_below HBx.out hfin
  have hSg:=(show SAt w b T pre x post from HS.out).below hBW
  have hRg:StaG g2 G x:=HR.out.stay (.of_below hBW) (.of_below hBW)
  have hVg:RecG g2 G rv:=HV.out.stay (.of_below hBW)
  have hzg:=hBW.size
  have HBW:Hid (Below w.heap.size w g2):=hBW
  have HSg:Hid (SAt g2 b T pre x post):=hSg
  have HRg:Hid (StaG g2 G x):=hRg
  have HVg:Hid (RecG g2 G rv):=hVg
  have HLg:Hid (∀ k,G k→k < g2.heap.size):=fun k hk=>Nat.lt_of_lt_of_le (HLt.out k hk) hzg
  have y0:g2.cell? ⟨w.heap.size,0,none⟩ = some (.int .i64 rv.k):=box_cell hbg 0
  have y17:g2.cell? ⟨w.heap.size,17,none⟩ = some (.int .i64 rv.i):=box_cell hbg 17
  have y18:g2.cell? ⟨w.heap.size,18,none⟩ = some (.int .i64 rv.t):=box_cell hbg 18
  have hlg:=box_lt hbg
  have hlb:=hSg.lt
  clear s0 KY KX KB KL KT HB1 HBx HS HR HV HLt hc1 hc2 hfin hBW hSg hRg hVg
  cases tk with
  | false =>
    clear y0 y17 y18 hbg
    have HF:Hid (pfold11 x.s rv.r = (x.s,false)):=by rw [Hid,HP.out,if_neg (by decide)]
    go_wp2
    go_ret
    exact ⟨by rw [HF.out];rfl,x,HSg.out,by rw [HF.out],HRg.out.mono more_in,Turn.of_below HBW.out (Nat.le_refl _)⟩
  | true =>
    rcases HTk.out rfl with hk | hk | hk
    · have HF:Hid (pfold11 x.s rv.r = (⟨x.i,x.t,x.h,(x.es.map EntV.e).take (left11 (x.es.map EntV.e) rv.e.i)++[rv.e.e]⟩,true)):=by rw [Hid,HP.out,if_pos rfl,if_pos hk]
      have HK1:Hid (rv.k = 1):=hk
      rw [hk] at y0
      have hldE:=ldE_in hbg
      have kp:=putP_any g2 b T pre post x G rv.e HT1.out HT2.out HSg.out HRg.out.row HVg.out.e HLg.out hl
      rw [hpl.out] at kp
      clear hk y17 y18 hbg HP HTk
      go_wp2_with fail
      refine kp.mono ?_
      rintro _ w3 ⟨⟨v,rfl⟩,s',h1,h2,h3⟩
      have HFin:Hid (Fold11 w b T pre x post G rv (.returned (.bool true)) w3):=⟨by rw [HF.out],_,h1,by rw [HF.out];show (⟨x.i,x.t,x.h,List.map EntV.e _⟩:Sta11) = _;rw [List.map_append,List.map_take];rfl,⟨HRg.out.i,HRg.out.t,HRg.out.h,h2.mono (more_more hzg)⟩,(Turn.of_below HBW.out (Nat.le_refl _)).wide h3 fun k hk=>.inl (hk.imp id fun h=>⟨HK1.out,h⟩)⟩
      clear h1 h2 h3 kp y0 hldE
      go_wp2
      go_ret
      exact HFin.out
    · have HF:Hid (pfold11 x.s rv.r = (⟨x.i,x.t,rv.h,x.es.map EntV.e⟩,true)):=by rw [Hid,HP.out,if_pos rfl,if_neg (by omega),if_pos hk]
      rw [hk] at y0
      have hldH:=ldH_in hbg
      have hth:=HSg.out.there 2 3 (by decide)
      have hst:=stH_arr (pre.length + 2) rv.h hth
      have hS2:SAt (g2.setCells b (pre.length + 2) rv.h.arr.toList) b T pre ⟨x.i,x.t,rv.h,x.w,x.es⟩ post:=HSg.out.sets 2 rv.h.arr.toList _ (by show 2 + 3≤6;decide) rfl
      have ht2:Turn (fun k=>k = b) g2 (g2.setCells b (pre.length + 2) rv.h.arr.toList):=(Turn.refl _ _).grown (setCells_grown b _ _ _) fun k hk=>.inl (by cases hk;rfl)
      have hR2:StaG (g2.setCells b (pre.length + 2) rv.h.arr.toList) G ⟨x.i,x.t,rv.h,x.w,x.es⟩:=⟨HRg.out.i,HRg.out.t,HVg.out.h,HRg.out.row.stay (stay_box ht2 HSg.out HT2.out) (stay_box ht2 HSg.out HT1.out)⟩
      have HFin:Hid (Fold11 w b T pre x post G rv (.returned (.bool true)) (g2.setCells b (pre.length + 2) rv.h.arr.toList)):=⟨by rw [HF.out],_,hS2,by rw [HF.out];rfl,hR2.mono more_in,(Turn.of_below HBW.out (Nat.le_refl _)).wide ht2 fun k hk=>.inl (.inl hk)⟩
      rw [hpl.out] at hst HFin
      clear hk y17 y18 hbg HP HTk hth hS2 ht2 hR2
      go_wp2
      go_ret
      exact HFin.out
    · have HF:Hid (pfold11 x.s rv.r = (⟨rv.i,rv.t,x.h,if had11 x.i (x.es.map EntV.e) rv.i rv.t = true then (x.es.map EntV.e).drop (goneN11 (x.es.map EntV.e) rv.i) else []⟩,true)):=by rw [Hid,HP.out,if_pos rfl,if_neg (by omega),if_neg (by omega)]
      rw [hk] at y0
      have kp:=rebaseP_any g2 b T pre post x rv.i rv.t HSg.out HRg.out.row.has HRg.out.row.addr (by omega)
      rw [hpl.out] at kp
      have HG:Hid (goes11 x rv.i rv.t≤x.w.n):=by
        rw [Hid]
        unfold goes11
        split
        · have:=gone_len (x.es.map EntV.e) rv.i
          rw [List.length_map,HRg.out.row.n] at this
          exact this
        · exact Nat.le_refl _
      have HD:Hid ((x.es.map EntV.e).drop (goes11 x rv.i rv.t) = if had11 x.i (x.es.map EntV.e) rv.i rv.t = true then (x.es.map EntV.e).drop (goneN11 (x.es.map EntV.e) rv.i) else []):=by
        rw [Hid]
        unfold goes11
        split
        · rfl
        · rw [List.drop_of_length_le (by rw [List.length_map,HRg.out.row.n];exact Nat.le_refl _)]
      clear hk hbg HP HTk
      generalize goes11 x rv.i rv.t = L at *
      go_wp2_with fail
      refine kp.mono ?_
      rintro _ w3 ⟨⟨v,rfl⟩,h1,h2⟩
      have HFin:Hid (Fold11 w b T pre x post G rv (.returned (.bool true)) w3):=⟨by rw [HF.out],_,h1,by rw [HF.out];show (⟨rv.i,rv.t,x.h,List.map EntV.e _⟩:Sta11) = _;rw [List.map_drop,HD.out],⟨HVg.out.i,HVg.out.t,HRg.out.h,((HRg.out.row.cut HG.out).stay (stay_box h2 HSg.out HT2.out) (stay_box h2 HSg.out HT1.out)).mono more_in⟩,(Turn.of_below HBW.out (Nat.le_refl _)).wide h2 fun k hk=>.inl (.inl hk)⟩
      clear h1 h2 kp y0 y17 y18
      go_wp2
      go_ret
      exact HFin.out
end Go.Proofs.YtkbbhllchombdaaGreatDoor

namespace Go.Proofs.YtkbbhllchombdaaGreatDoor
open Go.RowKit Go.Shelf Go.Maps
shelf_lay_g SlLaysM.n5 Slgm 5 at Tryz 156 as Tryz.sortIL
theorem putI_take (F:List Int) (c:Array Value) (h:F.length≤c.size):(Sort.putCells (Value.int .i64) 0 F.toArray c).toList.take F.length = F.map (Value.int .i64):=by
  apply List.ext_getElem?
  intro k
  by_cases hk:k < F.length
  · rw [List.getElem?_take,if_pos hk]
    simp [Sort.putCells,show k < c.size by omega,hk]
  · rw [List.getElem?_take,if_neg hk]
    rw [List.getElem?_map,List.getElem?_eq_none (by omega)]
    rfl
theorem sortI_any (B:Nat) (v:Value) (l:List Int) (w:World) (h:OwnsI w B v l) (hl:l.length≤1099511627776) :
    Calls Tryz.prog 156 #[v] w fun e w'=>e = .returned (.tuple #[])∧OwnsI w' B v (l.mergeSort fun x y=>decide (x≤y))∧w.grownBy w' v.ownBlock:=by
  have hnone:∀ p c,l = []→v = .slice p 0 c→Calls Tryz.prog 156 #[v] w fun e w'=>e = .returned (.tuple #[])∧OwnsI w' B v (l.mergeSort fun x y=>decide (x≤y))∧w.grownBy w' v.ownBlock:=by
    intro p c h0 hv
    have hc:=AnyM.slices_Sort_int_none Tryz.sortIL p c w
    change Calls Tryz.prog 156 _ _ _ at hc
    subst hv
    refine hc.mono ?_
    rintro e w' ⟨rfl,rfl⟩
    subst h0
    exact ⟨rfl,by rw [List.mergeSort_nil];exact h,⟨rfl,rfl,rfl,Nat.le_refl _,fun _ _ _=>rfl⟩⟩
  rcases h.2 with ⟨hv,hn⟩ | ⟨g,cap,cur,hv,hB,hg,hnc,hcm,hcs,htake⟩
  · exact hnone _ _ (List.eq_nil_of_length_eq_zero hn) hv
  · by_cases h0:l.length = 0
    · exact hnone _ _ (List.eq_nil_of_length_eq_zero h0) (by rw [hv,h0])
    · have hlt:g < w.heap.size:=(Array.getElem?_eq_some_iff.1 hg).1
      have hH:Sort.Holds (Value.int .i64) w g 0 l.toArray:=by
        intro j hj
        have hj':j < l.length:=by simpa using hj
        rw [hv] at h
        have hc:=World.ownsRow.cells h (g:=g) rfl j (.int .i64 l[j]) (by simp [hj'])
        rw [Addr.add_lit] at hc
        refine ⟨?_,by simp [World.frozen?,hg]⟩
        rw [hc,getElem!_pos _ j hj]
        simp
      have hc:=AnyM.slices_Sort_int Tryz.sortIL g 0 cap l w hH hlt (by omega)
      change Calls Tryz.prog 156 _ _ _ at hc
      rw [hv]
      refine hc.mono ?_
      rintro e w' ⟨rfl,n,os,rfl⟩
      have hlen:(l.mergeSort fun x y=>decide (x≤y)).length = l.length:=List.length_mergeSort _
      generalize (l.mergeSort fun x y=>decide (x≤y)) = m at *
      have hput:(Sort.grow (Sort.putRow (Value.int .i64) (Sort.ahead w n) g 0 m.toArray) os).heap[g]? = some (.cells (Sort.putCells (Value.int .i64) 0 m.toArray cur) 3 (0,0)):=by
        unfold Sort.putRow
        rw [Sort.heap_grow_old _ _ (by simp [Sort.mapBlock,Sort.ahead,hlt])]
        simp [Sort.mapBlock,Sort.ahead,Array.getElem?_modify,hg,Sort.onCells]
      refine ⟨rfl,⟨by simp,.inr ⟨g,cap,_,by rw [hlen],hB,hput,by omega,hcm,?_,?_⟩⟩,?_⟩
      · simp [Sort.putCells,hcs]
      · rw [Nat.mul_one]
        exact putI_take m cur (by omega)
      · refine ⟨rfl,rfl,rfl,?_,fun k hk hne=>?_⟩
        · simp [Sort.grow,Sort.putRow,Sort.mapBlock,Sort.ahead]
        · have hkg:k ≠ g:=fun e=>hne (by rw [e];rfl)
          unfold Sort.putRow
          rw [Sort.heap_grow_old _ _ (by simp [Sort.mapBlock,Sort.ahead];exact hk)]
          simp [Sort.mapBlock,Sort.ahead,Array.getElem?_modify,Ne.symm hkg]
end Go.Proofs.YtkbbhllchombdaaGreatDoor
