import Derived.Test.YtkbbhllchombdaaGreatDoorCmETo
import Derived.Test.YtkbbhllchombdaaGreatDoorEnRTo
import Derived.Test.YtkbbhllchombdaaGreatDoorLd
import Derived.Laws.ResultCell
import Derived.Laws.Rows
namespace Go.Proofs.YtkbbhllchombdaaGreatDoor
open Go.RowKit Go.Lib
def Box9 (w0 w:World) (b:Nat) (c:Cmd9):Prop:=CmdAt w b c∧Below w0.heap.size w0 w∧w0.heap.size≤b
theorem Box9.new (w:World) (c:Cmd9):Box9 w (w.alloc (.cells c.arr 23)) w.heap.size c:=⟨CmdAt.new w c,(Below.refl _ _).alloc (Nat.le_refl _) _,Nat.le_refl _⟩
theorem Box9.below {w0 w w':World} {b:Nat} {c:Cmd9} (h:Box9 w0 w b c) (hb:Below w.heap.size w w'):Box9 w0 w' b c:=⟨h.1.below hb,h.2.1.trans (hb.mono h.2.1.size),h.2.2⟩
theorem Box9.more {w0 w:World} {b:Nat} {c:Cmd9} (h:Box9 w0 w b c) (x:Obj):Box9 w0 (w.alloc x) b c:=h.below ((Below.refl _ _).alloc (Nat.le_refl _) x)
theorem Box9.cells {w0 w:World} {b:Nat} {k s q:Int} {key old val unt:ByteArray} {lim:Int} (h:Box9 w0 w b ⟨k,s,q,key,old,val,unt,lim⟩) :
    w.cell? ⟨b,0,none⟩ = some (.int .i64 k)∧w.cell? ⟨b,1,none⟩ = some (.int .i64 s)∧w.cell? ⟨b,2,none⟩ = some (.int .i64 q)∧w.cell? ⟨b,3,none⟩ = some (.string key) ∧
    w.cell? ⟨b,4,none⟩ = some (.string old)∧w.cell? ⟨b,5,none⟩ = some (.string val)∧w.cell? ⟨b,6,none⟩ = some (.string unt)∧w.cell? ⟨b,7,none⟩ = some (.int .i64 lim):=h.1.cells
end Go.Proofs.YtkbbhllchombdaaGreatDoor

namespace Go.Proofs.YtkbbhllchombdaaGreatDoor
open Go.RowKit
attribute [local go_sem ↓] ldE_exec ldE_run stE_exec stE_run ldC_exec ldC_run stC_exec stC_run ldW_exec stW_exec ldR_exec stR_exec ldT_exec stT_exec ldU_exec stU_exec oc_int oc_bool oc_string oc_slice oc_pointer
def nums9 (c:Cmd9):List Int:=[c.k,c.s,c.q,c.lim]
def txts9 (c:Cmd9):List ByteArray:=[c.key,c.old,c.val,c.unt]
def zigsB (l:List Int):List Int:=(l.map zigB).flatten
def textsB (l:List ByteArray):List Int:=(l.map textB).flatten
theorem cmdB_parts (c:Cmd9):cmdB c = zigsB (nums9 c)++textsB (txts9 c):=by simp [cmdB,zigsB,textsB,nums9,txts9]
theorem zigsB_snoc {l:List Int} {j:Nat} (h:j < l.length):zigsB (l.take (j + 1)) = zigsB (l.take j)++numB (zigS (l.getD j 0)):=by
  rw [List.take_succ_eq_append_getElem h]
  unfold zigsB
  rw [List.map_append,List.flatten_append,List.getD_eq_getElem?_getD,List.getElem?_eq_getElem h]
  simp [zigB]
theorem textsB_snoc {l:List ByteArray} {j:Nat} (h:j < l.length):textsB (l.take (j + 1)) = textsB (l.take j)++textB (l.getD j em9):=by
  rw [List.take_succ_eq_append_getElem h]
  unfold textsB
  rw [List.map_append,List.flatten_append,List.getD_eq_getElem?_getD,List.getElem?_eq_getElem h]
  simp
theorem zigsB_len:∀ l:List Int,(zigsB l).length≤9 * l.length
  | []=>by simp [zigsB]
  | a :: l=>by
    have:=zigsB_len l
    have h2:=zigB_le a
    rw [show zigsB (a :: l) = zigB a++zigsB l by simp [zigsB],List.length_append,List.length_cons]
    omega
theorem textsB_len:∀ {l:List ByteArray} {m:Nat},(∀ s ∈ l,s.size≤m)→(textsB l).length≤(m + 9) * l.length
  | [],_,_=>by simp [textsB]
  | a :: l,m,h=>by
    have:=textsB_len (l:=l) (m:=m) fun s hs=>h s (List.mem_cons_of_mem _ hs)
    have h2:=textB_length a
    have h3:=h a List.mem_cons_self
    rw [show textsB (a :: l) = textB a++textsB l by simp [textsB],List.length_append,List.length_cons,Nat.mul_add]
    omega
set_option maxRecDepth 100000 in
set_option maxHeartbeats 1500000 in
theorem bytes20_any (c:Cmd9) (w:World) (hs:c.key.size≤20000∧c.old.size≤20000∧c.val.size≤20000∧c.unt.size≤20000) :
    Calls Tryz.prog 233 #[.agg c.arr] w fun e w'=>∃ v,e = .returned v∧Owns w' w.heap.size 5 v (cmdB c)∧Below w.heap.size w w':=by
  have hB0:=Box9.new w c
  have HC:Hid (cmdB c = zigsB (nums9 c)++textsB (txts9 c)):=cmdB_parts c
  have HN:Hid ((nums9 c).length = 4):=rfl
  have HT:Hid ((txts9 c).length = 4):=rfl
  have HS:Hid (∀ s ∈ txts9 c,s.size≤20000):=by
    intro s h
    simp only [txts9,List.mem_cons,List.not_mem_nil,or_false] at h
    rcases h with rfl | rfl | rfl | rfl
    · exact hs.1
    · exact hs.2.1
    · exact hs.2.2.1
    · exact hs.2.2.2
  have HA:∀ (W:World) (R:Nat) (l:List Int),W.heap[R]? = some (.cells (l.map (Value.int .i64)).toArray 3 (0,0))→∀ j,j < l.length→W.cell? ⟨R,j,none⟩ = some (.int .i64 (l.getD j 0)):=by
    intro W R l h j hj
    rw [cell_of_row _ R j _ 3 (0,0) h]
    simp [List.getD_eq_getElem?_getD,hj]
  have HA2:∀ (W:World) (R:Nat) (l:List ByteArray),W.heap[R]? = some (.cells (l.map Value.string).toArray 9 (0,0))→∀ j,j < l.length→W.cell? ⟨R,j,none⟩ = some (.string (l.getD j em9)):=by
    intro W R l h j hj
    rw [cell_of_row _ R j _ 9 (0,0) h]
    simp [List.getD_eq_getElem?_getD,hj]
  have Hn:Hid (nums9 c = [c.k,c.s,c.q,c.lim]):=rfl
  have Ht:Hid (txts9 c = [c.key,c.old,c.val,c.unt]):=rfl
  generalize cmdB c = xs at *
  generalize nums9 c = ns at *
  generalize txts9 c = ts at *
  obtain ⟨k,s,q,key,old,val,unt,lim⟩:=c
  unfold Cmd9.arr at *
  dsimp only at *
  have hb2:=hB0.more (.cells #[.int .i64 k,.int .i64 s,.int .i64 q,.int .i64 lim] 3)
  have hr2:=heap_alloc_new (w.alloc (.cells #[.int .i64 k,.int .i64 s,.int .i64 q,.string key,.string old,.string val,.string unt,.int .i64 lim] 23)) (.cells #[.int .i64 k,.int .i64 s,.int .i64 q,.int .i64 lim] 3)
  rw [show (w.alloc (.cells #[.int .i64 k,.int .i64 s,.int .i64 q,.string key,.string old,.string val,.string unt,.int .i64 lim] 23)).heap.size = w.heap.size + 1 by simp] at hr2
  go_enter Tryz.func233,Tryz.ntmps233
  go_wp2
  generalize (w.alloc (.cells #[.int .i64 k,.int .i64 s,.int .i64 q,.string key,.string old,.string val,.string unt,.int .i64 lim] 23)).alloc (.cells #[.int .i64 k,.int .i64 s,.int .i64 q,.int .i64 lim] 3) = W2 at *
  have hc2:=HA W2 _ ns (by rw [Hn.out];exact hr2)
  rw [HN.out] at hc2
  have hlt2:=(Array.getElem?_eq_some_iff.1 hr2).1
  have hw2:=hb2.2.1.size
  clear hB0 hr2 HA
  go_loopw [3,18] (fun s3 s18 wr=>∃ (j:Nat) (u:Value),u = s3∧j≤4∧s18 = .int .i64 (j:Nat)∧Owns wr w.heap.size 5 u (zigsB (ns.take j))∧Below W2.heap.size W2 wr) (fun _ s18 _=>4 - (intOf s18).toNat)
  case atStart=>exact ⟨0,_,rfl,Nat.zero_le _,rfl,Owns.nil _ _ _,Below.refl _ _⟩
  case round =>
    obtain ⟨j,u,hu,hj,rfl,ho,hbr⟩:=hrel
    subst hu
    by_cases hlt:j < 4
    · have cj:=(hbr.cell (p:=⟨w.heap.size + 1,j,none⟩) hlt2).trans (hc2 j hlt)
      have Hst:=zigsB_snoc (l:=ns) (j:=j) (by rw [HN.out];exact hlt)
      have HST:Hid (zigsB (ns.take (j + 1)) = zigsB (ns.take j)++numB (zigS (ns.getD j 0))):=Hst
      have hzl:=zigsB_len (ns.take j)
      have htl:(ns.take j).length≤4:=by rw [List.length_take];omega
      clear Hst
      generalize ns.getD j 0 = n at *
      have hzz:=zig_any n wr
      have hzb:=zig_bd n
      have hpp:=put_any u _ (zigS n) wr ho.has (by omega) hzb.1 hzb.2
      generalize zigS n = z at *
      have hbz:=hbr.size
      go_wp2_with fail
      refine same_mono hzz ?_
      go_wp2_with fail
      refine hpp.mono ?_
      rintro e w3 ⟨v3,rfl,ho3,hb3⟩
      clear hzz hpp
      go_wp2
      go_roundw
      case rel=>exact ⟨j + 1,_,rfl,by omega,by go_num,by rw [HST.out];exact ho3.mono (by omega),hbr.trans (hb3.mono hbz)⟩
      case measure=>simp only [intOf];omega
    · rw [List.take_of_length_le (by rw [HN.out];omega)] at ho
      have hb3:=hb2.below hbr
      obtain ⟨c0,c1,c2,c3,c4,c5,c6,c7⟩:=hb3.cells
      have hlb:=hb3.1.lt
      have hb4:=hb3.more (.cells #[.string key,.string old,.string val,.string unt] 9)
      have hr4:=heap_alloc_new wr (.cells #[.string key,.string old,.string val,.string unt] 9)
      have ho4:Owns (wr.alloc (.cells #[.string key,.string old,.string val,.string unt] 9)) w.heap.size 5 u (zigsB ns):=World.ownsRow.alloc ho _
      have hzl:=zigsB_len ns
      have htl:=HN.out
      clear hc2 hb2 hb3 ho hlt2 hbr
      go_wp2
      generalize wr.alloc (.cells #[.string key,.string old,.string val,.string unt] 9) = W4 at *
      have hc4:=HA2 W4 _ ts (by rw [Ht.out];exact hr4)
      rw [HT.out] at hc4
      have hlt4:=(Array.getElem?_eq_some_iff.1 hr4).1
      have hw4:=hb4.2.1.size
      clear hr4 HA2 c0 c1 c2 c3 c4 c5 c6 c7
      generalize wr.heap.size = R at *
      go_loopw [3,37] (fun s3 s37 wr=>∃ (i:Nat) (v:Value),v = s3∧i≤4∧s37 = .int .i64 (i:Nat)∧Owns wr w.heap.size 5 v (zigsB ns++textsB (ts.take i))∧Below W4.heap.size W4 wr) (fun _ s37 _=>4 - (intOf s37).toNat)
      case atStart=>exact ⟨0,_,rfl,Nat.zero_le _,rfl,by rw [show textsB (ts.take 0) = [] from rfl,List.append_nil];exact ho4,Below.refl _ _⟩
      case round =>
        clear ho4
        obtain ⟨i,v,hv,hi,rfl,ho2,hbr2⟩:=hrel
        subst hv
        by_cases hlt2:i < 4
        · have cj:=(hbr2.cell (p:=⟨R,i,none⟩) hlt4).trans (hc4 i hlt2)
          have Hst:=textsB_snoc (l:=ts) (j:=i) (by rw [HT.out];exact hlt2)
          have HST:Hid (textsB (ts.take (i + 1)) = textsB (ts.take i)++textB (ts.getD i em9)):=Hst
          have hxl:=textsB_len (l:=ts.take i) (m:=20000) fun s h=>HS.out s (List.mem_of_mem_take h)
          have hxt:(ts.take i).length≤4:=by rw [List.length_take];omega
          have hsz:(ts.getD i em9).size≤20000:=by
            refine HS.out _ ?_
            rw [List.getD_eq_getElem?_getD,List.getElem?_eq_getElem (by rw [HT.out];exact hlt2)]
            exact List.getElem_mem _
          clear Hst
          generalize ts.getD i em9 = t at *
          have hpp:=putText_any v _ t wr ho2.has (by rw [List.length_append];omega) (by omega)
          have hbz2:=hbr2.size
          go_wp2_with fail
          refine hpp.mono ?_
          rintro e w3 ⟨v3,rfl,ho3,hb3⟩
          clear hpp
          go_wp2
          go_roundw
          case rel=>exact ⟨i + 1,_,rfl,by omega,by go_num,by rw [HST.out,← List.append_assoc];exact ho3.mono (by omega),hbr2.trans (hb3.mono hbz2)⟩
          case measure=>simp only [intOf];omega
        · rw [List.take_of_length_le (by rw [HT.out];omega)] at ho2
          have hb5:=hb4.below hbr2
          clear hc4 hb4
          go_wp2
          go_ret
          exact ⟨_,rfl,by rw [HC.out];exact ho2,hb5.2.1⟩
theorem infoI9:(Tryz.prog.info? 3).map (fun i=>(i.zero,i.size,i.bytes)) = some (some (.int .i64 0),1,8):=by kernel_rfl
theorem infoS9:(Tryz.prog.info? 9).map (fun i=>(i.zero,i.size,i.bytes)) = some (some (.string ⟨#[]⟩),1,16):=by kernel_rfl
theorem index_ints9 (a b c d:Int) (j:Nat) (h:j < 4) (W:World):(Instr.index 275 (.agg #[.int .i64 a,.int .i64 b,.int .i64 c,.int .i64 d]) (.int .i64 (j:Nat))).run Tryz.prog W = .ok (.int .i64 ([a,b,c,d].getD j 0)) W:=by
  obtain ⟨i1,hi1,hz1,hs1,hb1⟩:=info_parts infoI9
  obtain rfl | rfl | rfl | rfl:j = 0∨j = 1∨j = 2∨j = 3:=by omega
  all_goals simp [Instr.index,asIntOf,run_underlying Tryz.underlying275,sizeOf,typeInfo,hi1,hs1,part,go_sem]
theorem index_strs9 (a b c d:ByteArray) (j:Nat) (h:j < 4) (W:World):(Instr.index 276 (.agg #[.string a,.string b,.string c,.string d]) (.int .i64 (j:Nat))).run Tryz.prog W = .ok (.string ([a,b,c,d].getD j em9)) W:=by
  obtain ⟨i1,hi1,hz1,hs1,hb1⟩:=info_parts infoS9
  obtain rfl | rfl | rfl | rfl:j = 0∨j = 1∨j = 2∨j = 3:=by omega
  all_goals simp [Instr.index,asIntOf,run_underlying Tryz.underlying276,sizeOf,typeInfo,hi1,hs1,part,go_sem]
set_option maxRecDepth 100000 in
set_option maxHeartbeats 1500000 in
theorem rbytes20_any (c:Cmd9) (w:World) (hs:c.key.size≤20000∧c.old.size≤20000∧c.val.size≤20000∧c.unt.size≤20000) :
    Calls Tryz.prog 191 #[.agg c.arr] w fun e w'=>∃ v,e = .returned v∧Owns w' w.heap.size 5 v (cmdB c)∧Below w.heap.size w w':=by
  have hB0:=Box9.new w c
  have HC:Hid (cmdB c = zigsB (nums9 c)++textsB (txts9 c)):=cmdB_parts c
  have HN:Hid ((nums9 c).length = 4):=rfl
  have HT:Hid ((txts9 c).length = 4):=rfl
  have HS:Hid (∀ s ∈ txts9 c,s.size≤20000):=by
    intro s h
    simp only [txts9,List.mem_cons,List.not_mem_nil,or_false] at h
    rcases h with rfl | rfl | rfl | rfl
    · exact hs.1
    · exact hs.2.1
    · exact hs.2.2.1
    · exact hs.2.2.2
  have Hn:Hid (nums9 c = [c.k,c.s,c.q,c.lim]):=rfl
  have Ht:Hid (txts9 c = [c.key,c.old,c.val,c.unt]):=rfl
  generalize cmdB c = xs at *
  generalize nums9 c = ns at *
  generalize txts9 c = ts at *
  obtain ⟨k,s,q,key,old,val,unt,lim⟩:=c
  unfold Cmd9.arr at *
  dsimp only at *
  have hix:=fun (j:Nat) (hj:j < 4) (W:World)=>index_ints9 k s q lim j hj W
  rw [← Hn.out] at hix
  have HIX:Hid _:=hix
  have hiy:=fun (j:Nat) (hj:j < 4) (W:World)=>index_strs9 key old val unt j hj W
  rw [← Ht.out] at hiy
  have HIY:Hid _:=hiy
  clear hix hiy
  go_enter Tryz.func191,Tryz.ntmps191
  go_wp2
  generalize w.alloc (.cells #[.int .i64 k,.int .i64 s,.int .i64 q,.string key,.string old,.string val,.string unt,.int .i64 lim] 23) = W2 at *
  have hw2:=hB0.2.1.size
  go_loopw [3,17] (fun s3 s17 wr=>∃ (j:Nat) (u:Value),u = s3∧j≤4∧s17 = .int .i64 (j:Nat)∧Owns wr w.heap.size 5 u (zigsB (ns.take j))∧Below W2.heap.size W2 wr) (fun _ s17 _=>4 - (intOf s17).toNat)
  case atStart=>exact ⟨0,_,rfl,Nat.zero_le _,rfl,Owns.nil _ _ _,Below.refl _ _⟩
  case round =>
    obtain ⟨j,u,hu,hj,rfl,ho,hbr⟩:=hrel
    subst hu
    by_cases hlt:j < 4
    · have cj:=HIX.out j hlt
      have Hst:=zigsB_snoc (l:=ns) (j:=j) (by rw [HN.out];exact hlt)
      have HST:Hid (zigsB (ns.take (j + 1)) = zigsB (ns.take j)++numB (zigS (ns.getD j 0))):=Hst
      have hzl:=zigsB_len (ns.take j)
      have htl:(ns.take j).length≤4:=by rw [List.length_take];omega
      clear Hst
      generalize ns.getD j 0 = n at *
      have hzz:=rzig_any n wr
      have hzb:=zig_bd n
      have hpp:=rput_cod u _ (zigS n) wr ho.has (by omega) hzb.1 hzb.2
      generalize zigS n = z at *
      have hbz:=hbr.size
      go_wp2_with fail
      refine same_mono hzz ?_
      go_wp2_with fail
      refine hpp.mono ?_
      rintro e w3 ⟨v3,rfl,ho3,hb3⟩
      clear hzz hpp
      go_wp2
      go_roundw
      case rel=>exact ⟨j + 1,_,rfl,by omega,by go_num,by rw [HST.out];exact ho3.mono (by omega),hbr.trans (hb3.mono hbz)⟩
      case measure=>simp only [intOf];omega
    · rw [List.take_of_length_le (by rw [HN.out];omega)] at ho
      have hb3:=hB0.below hbr
      obtain ⟨c0,c1,c2,c3,c4,c5,c6,c7⟩:=hb3.cells
      have hlb:=hb3.1.lt
      have hzl:=zigsB_len ns
      have htl:=HN.out
      have hw4:=hb3.2.1.size
      clear hB0 hbr HIX
      go_wp2
      clear c0 c1 c2 c3 c4 c5 c6 c7
      go_loopw [3,34] (fun s3 s34 wx=>∃ (i:Nat) (v:Value),v = s3∧i≤4∧s34 = .int .i64 (i:Nat)∧Owns wx w.heap.size 5 v (zigsB ns++textsB (ts.take i))∧Below wr.heap.size wr wx) (fun _ s34 _=>4 - (intOf s34).toNat)
      case atStart=>exact ⟨0,_,rfl,Nat.zero_le _,rfl,by rw [show textsB (ts.take 0) = [] from rfl,List.append_nil];exact ho,Below.refl _ _⟩
      case round =>
        clear ho
        obtain ⟨i,v,hv,hi,rfl,ho2,hbr2⟩:=hrel
        subst hv
        by_cases hlt2:i < 4
        · have cj:=HIY.out i hlt2
          have Hst:=textsB_snoc (l:=ts) (j:=i) (by rw [HT.out];exact hlt2)
          have HST:Hid (textsB (ts.take (i + 1)) = textsB (ts.take i)++textB (ts.getD i em9)):=Hst
          have hxl:=textsB_len (l:=ts.take i) (m:=20000) fun s h=>HS.out s (List.mem_of_mem_take h)
          have hxt:(ts.take i).length≤4:=by rw [List.length_take];omega
          have hsz:(ts.getD i em9).size≤20000:=by
            refine HS.out _ ?_
            rw [List.getD_eq_getElem?_getD,List.getElem?_eq_getElem (by rw [HT.out];exact hlt2)]
            exact List.getElem_mem _
          clear Hst
          generalize ts.getD i em9 = t at *
          have hpp:=rputText_any v _ t _ ho2.has (by rw [List.length_append];omega) (by omega)
          have hbz2:=hbr2.size
          go_wp2_with fail
          refine hpp.mono ?_
          rintro e w5 ⟨v5,rfl,ho5,hb5⟩
          clear hpp
          go_wp2
          go_roundw
          case rel=>exact ⟨i + 1,_,rfl,by omega,by go_num,by rw [HST.out,← List.append_assoc];exact ho5.mono (by omega),hbr2.trans (hb5.mono hbz2)⟩
          case measure=>simp only [intOf];omega
        · rw [List.take_of_length_le (by rw [HT.out];omega)] at ho2
          have hb5:=hb3.below hbr2
          clear hb3 HIY
          go_wp2
          go_ret
          exact ⟨_,rfl,by rw [HC.out];exact ho2,hb5.2.1⟩
end Go.Proofs.YtkbbhllchombdaaGreatDoor

namespace Go.Proofs.YtkbbhllchombdaaGreatDoor
open Go.RowKit
theorem frozen9 {W:World} {k:Nat} {c:Array Value} {t:TypeId} (h:W.heap[k]? = some (.cells c t (0,0))) (j:Nat):W.frozen? ⟨k,j,none⟩ = false:=by simp [World.frozen?,h]
theorem set_block9 {w:World} {b:Nat} {c:Array Value} {t:TypeId} (h:w.heap[b]? = some (.cells c t (0,0))) (i:Nat) (v:Value) (hi:i < c.size):(w.setCell ⟨b,i,none⟩ v).heap[b]? = some (.cells (c.set i v hi) t (0,0)):=by
  have hlt:=(Array.getElem?_eq_some_iff.1 h).1
  have hg:=(Array.getElem?_eq_some_iff.1 h).2
  simp only [World.setCell,Array.getElem?_modify,hlt,Array.getElem?_eq_getElem,hg]
  simp [Array.setIfInBounds,hi]
structure RdC (w0 w:World) (S:List Int × Bool) (c:Cmd9):Prop where
  rd:∃ v,Rd w (w0.heap.size + 1) w0.heap.size v S.1 S.2
  box:CmdAt w (w0.heap.size + 1 + 1) c
  res:CmdAt w w0.heap.size zeroC9
  bel:Below w0.heap.size w0 w
  inv:Inv S.1 S.2
  isb:IsB S.1
  len:S.1.length≤1099511627776
theorem RdC.grow {w0 w w':World} {S S':List Int × Bool} {c:Cmd9} (h:RdC w0 w S c) (hr:∃ v,Rd w' (w0.heap.size + 1) w0.heap.size v S'.1 S'.2) (hg:w.grownBy w' (some (w0.heap.size + 1))) (hi:Inv S'.1 S'.2) (hB:IsB S'.1) (hl:S'.1.length≤S.1.length):RdC w0 w' S' c :=
  ⟨hr,(hg.block _ h.box.lt (by intro e;have:=Option.some.inj e;omega)).trans h.box,(hg.block _ h.res.lt (by intro e;have:=Option.some.inj e;omega)).trans h.res,
    ⟨hg.os.trans h.bel.os,hg.tape.trans h.bel.tape,hg.output.trans h.bel.output,Nat.le_trans h.bel.size hg.size,fun k hk=>(hg.block k (Nat.lt_of_lt_of_le hk h.bel.size) (by simp;omega)).trans (h.bel.block k hk)⟩,hi,hB,Nat.le_trans hl h.len⟩
theorem RdC.int {w0 w:World} {S:List Int × Bool} {c:Cmd9} (h:RdC w0 w S c) :
    Calls Tryz.prog 166 #[.pointer (some ⟨w0.heap.size + 1,0,none⟩)] w fun e w'=>e = .returned (.int .i64 (int9 S).1)∧RdC w0 w' (int9 S).2 c:=by
  obtain ⟨v,hv⟩:=h.rd
  refine (int_any w _ _ v _ _ hv h.isb h.len).mono ?_
  rw [h.inv.src]
  rintro e w' ⟨rfl,hr,hg⟩
  exact ⟨rfl,h.grow hr hg (h.inv.lose _) (loseS_isB h.isb _ _) (loseS_length _ _ _)⟩
theorem RdC.text {w0 w:World} {S:List Int × Bool} {c:Cmd9} (h:RdC w0 w S c) :
    Calls Tryz.prog 305 #[.pointer (some ⟨w0.heap.size + 1,0,none⟩)] w fun e w'=>e = .returned (.string (txt9 S).1)∧RdC w0 w' (txt9 S).2 c:=by
  obtain ⟨v,hv⟩:=h.rd
  refine (text_any w _ _ v _ _ hv h.isb h.len).mono ?_
  rw [h.inv.src]
  rintro e w' ⟨rfl,hr,hg⟩
  exact ⟨rfl,h.grow hr hg (h.inv.lose _) (loseS_isB h.isb _ _) (loseS_length _ _ _)⟩
theorem RdC.rint {w0 w:World} {S:List Int × Bool} {c:Cmd9} (h:RdC w0 w S c) :
    Calls Tryz.prog 101 #[.pointer (some ⟨w0.heap.size + 1,0,none⟩)] w fun e w'=>e = .returned (.int .i64 (int9 S).1)∧RdC w0 w' (int9 S).2 c:=by
  obtain ⟨v,hv⟩:=h.rd
  refine (rint_any w _ _ v _ _ hv h.inv h.isb h.len).mono ?_
  rintro e w' ⟨rfl,hr,hg⟩
  exact ⟨rfl,h.grow hr hg (h.inv.lose _) (loseS_isB h.isb _ _) (loseS_length _ _ _)⟩
theorem RdC.rtext {w0 w:World} {S:List Int × Bool} {c:Cmd9} (h:RdC w0 w S c) :
    Calls Tryz.prog 221 #[.pointer (some ⟨w0.heap.size + 1,0,none⟩)] w fun e w'=>e = .returned (.string (txt9 S).1)∧RdC w0 w' (txt9 S).2 c:=by
  obtain ⟨v,hv⟩:=h.rd
  refine (rtext_any w _ _ v _ _ hv h.inv h.isb h.len).mono ?_
  rintro e w' ⟨rfl,hr,hg⟩
  exact ⟨rfl,h.grow hr hg (h.inv.lose _) (loseS_isB h.isb _ _) (loseS_length _ _ _)⟩
theorem RdC.fin {w0 w:World} {S:List Int × Bool} {c:Cmd9} (h:RdC w0 w S c) :
    Calls Tryz.prog 169 #[.pointer (some ⟨w0.heap.size + 1,0,none⟩)] w fun e w'=>e = .returned (.bool (S.1.isEmpty && !S.2))∧w' = w:=by
  obtain ⟨v,hv⟩:=h.rd
  exact end_any w _ _ v _ _ hv
theorem RdC.rfin {w0 w:World} {S:List Int × Bool} {c:Cmd9} (h:RdC w0 w S c) :
    Calls Tryz.prog 102 #[.pointer (some ⟨w0.heap.size + 1,0,none⟩)] w fun e w'=>e = .returned (.bool (S.1.isEmpty && !S.2))∧w' = w:=by
  obtain ⟨v,hv⟩:=h.rd
  exact rend_any w _ _ v _ _ hv
theorem RdC.below {w0 w w':World} {S:List Int × Bool} {c:Cmd9} (h:RdC w0 w S c) (hb:Below w.heap.size w w'):RdC w0 w' S c:=by
  obtain ⟨v,hv⟩:=h.rd
  exact ⟨⟨v,hv.below hb hv.lt⟩,h.box.below hb,h.res.below hb,h.bel.trans (hb.mono h.bel.size),h.inv,h.isb,h.len⟩
theorem RdC.put {w0 w:World} {S:List Int × Bool} {c c':Cmd9} (h:RdC w0 w S c) (i:Nat) (v:Value) (hi:i < 8) (hc:c'.arr = c.arr.set i v (by show i < 8;exact hi)):RdC w0 (w.setCell ⟨w0.heap.size + 1 + 1,i,none⟩ v) S c':=by
  have hg:=grown_set w (w0.heap.size + 1 + 1) i v
  obtain ⟨u,hu⟩:=h.rd
  refine ⟨⟨u,hu.grown hg (by omega) (by omega)⟩,?_,(hg.block _ h.res.lt (by intro e;have:=Option.some.inj e;omega)).trans h.res,
    ⟨hg.os.trans h.bel.os,hg.tape.trans h.bel.tape,hg.output.trans h.bel.output,Nat.le_trans h.bel.size hg.size,fun k hk=>(hg.block k (Nat.lt_of_lt_of_le hk h.bel.size) (by simp;omega)).trans (h.bel.block k hk)⟩,h.inv,h.isb,h.len⟩
  unfold CmdAt
  rw [hc]
  exact set_block9 h.box i v _
theorem CmdAt.put {w:World} {b:Nat} {c c':Cmd9} (h:CmdAt w b c) (i:Nat) (v:Value) (hi:i < 8) (hc:c'.arr = c.arr.set i v (by show i < 8;exact hi)):CmdAt (w.setCell ⟨b,i,none⟩ v) b c':=by
  unfold CmdAt
  rw [hc]
  exact set_block9 h i v _
theorem fill9 {w0 w:World} {b:Nat} {c0:Cmd9} (h:CmdAt w b c0) (hb:Below w0.heap.size w0 w) (hle:w0.heap.size≤b) (k s q:Int) (key old val unt:ByteArray) (lim:Int) :
    CmdAt ((((((((w.setCell ⟨b,0,none⟩ (.int .i64 k)).setCell ⟨b,1,none⟩ (.int .i64 s)).setCell ⟨b,2,none⟩ (.int .i64 q)).setCell ⟨b,3,none⟩ (.string key)).setCell ⟨b,4,none⟩ (.string old)).setCell ⟨b,5,none⟩ (.string val)).setCell ⟨b,6,none⟩ (.string unt)).setCell ⟨b,7,none⟩ (.int .i64 lim)) b ⟨k,s,q,key,old,val,unt,lim⟩∧Below w0.heap.size w0 ((((((((w.setCell ⟨b,0,none⟩ (.int .i64 k)).setCell ⟨b,1,none⟩ (.int .i64 s)).setCell ⟨b,2,none⟩ (.int .i64 q)).setCell ⟨b,3,none⟩ (.string key)).setCell ⟨b,4,none⟩ (.string old)).setCell ⟨b,5,none⟩ (.string val)).setCell ⟨b,6,none⟩ (.string unt)).setCell ⟨b,7,none⟩ (.int .i64 lim)) :=
  ⟨((((((((h.put (c':=⟨k,c0.s,c0.q,c0.key,c0.old,c0.val,c0.unt,c0.lim⟩) 0 (.int .i64 k) (by omega) rfl).put (c':=⟨k,s,c0.q,c0.key,c0.old,c0.val,c0.unt,c0.lim⟩) 1 (.int .i64 s) (by omega) rfl).put (c':=⟨k,s,q,c0.key,c0.old,c0.val,c0.unt,c0.lim⟩) 2 (.int .i64 q) (by omega) rfl).put (c':=⟨k,s,q,key,c0.old,c0.val,c0.unt,c0.lim⟩) 3 (.string key) (by omega) rfl).put (c':=⟨k,s,q,key,old,c0.val,c0.unt,c0.lim⟩) 4 (.string old) (by omega) rfl).put (c':=⟨k,s,q,key,old,val,c0.unt,c0.lim⟩) 5 (.string val) (by omega) rfl).put (c':=⟨k,s,q,key,old,val,unt,c0.lim⟩) 6 (.string unt) (by omega) rfl).put (c':=⟨k,s,q,key,old,val,unt,lim⟩) 7 (.int .i64 lim) (by omega) rfl),((((((((hb.setCell (p:=⟨b,0,none⟩) hle _).setCell (p:=⟨b,1,none⟩) hle _).setCell (p:=⟨b,2,none⟩) hle _).setCell (p:=⟨b,3,none⟩) hle _).setCell (p:=⟨b,4,none⟩) hle _).setCell (p:=⟨b,5,none⟩) hle _).setCell (p:=⟨b,6,none⟩) hle _).setCell (p:=⟨b,7,none⟩) hle _)⟩
theorem ret_cell9 {P:Program} {fn:Func} {p u:Tmp} {ty:TypeId} (h:fn.results = #[.cell p ty,.tmp u]) (tmps:Array Value) (w:World) (g:Nat) (t:TypeId) (cs:Array Value) (fr:Nat × Nat) (d:TypeDesc)
    (hp:tmps.getD p undef = .pointer (some ⟨g,0,none⟩)) (hg:w.heap[g]? = some (.cells cs t fr))
    (hu:P.underlying ty = some d) (hd:(match d with | .struct _ | .array _ _=>true | _=>false) = true) (hi:(P.info? ty).map (·.size) = some cs.size) :
    (results fn tmps).run P w = .ok (.tuple #[.agg cs,tmps.getD u undef]) w:=by
  rw [results_cell_tmp h,hp]
  simp [asAddr,run_loadVar_row w g t ty cs fr d hg hu hd hi,Result.andThen]
theorem RdC.cells {w0 w:World} {S:List Int × Bool} {c:Cmd9} (h:RdC w0 w S c):(∀ j,w.frozen? ⟨w0.heap.size + 1 + 1,j,none⟩ = false)∧(∀ j,w.frozen? ⟨w0.heap.size,j,none⟩ = false):=⟨fun j=>frozen9 h.box j,fun j=>frozen9 h.res j⟩
theorem RdC.new {w:World} {v:Value} {xs:List Int} {t:TypeId} (hv:Has w v xs) (hB:IsB xs) (hl:xs.length≤1099511627776) :
    RdC w (((w.alloc (.cells zeroC9.arr 23)).alloc (.cells #[v,.bool false] t)).alloc (.cells zeroC9.arr 23)) (xs,false) zeroC9:=by
  have hb1:Below w.heap.size w (w.alloc (.cells zeroC9.arr 23)):=(Below.refl _ _).alloc (Nat.le_refl _) _
  have h1:=CmdAt.new w zeroC9
  have z1:(w.alloc (.cells zeroC9.arr 23)).heap.size = w.heap.size + 1:=by simp
  generalize w.alloc (.cells zeroC9.arr 23) = w1 at *
  have hbox:=heap_alloc_new w1 (.cells #[v,.bool false] t)
  have hb2:Below w1.heap.size w1 (w1.alloc (.cells #[v,.bool false] t)):=(Below.refl _ _).alloc (Nat.le_refl _) _
  have z2:(w1.alloc (.cells #[v,.bool false] t)).heap.size = w1.heap.size + 1:=by simp
  have c0:(w1.alloc (.cells #[v,.bool false] t)).cell? ⟨w1.heap.size,0,none⟩ = some v:=by unfold World.cell?;dsimp only;rw [hbox];rfl
  have c1:(w1.alloc (.cells #[v,.bool false] t)).cell? ⟨w1.heap.size,1,none⟩ = some (.bool false):=by unfold World.cell?;dsimp only;rw [hbox];rfl
  have f0:=frozen9 hbox
  generalize w1.alloc (.cells #[v,.bool false] t) = w2 at *
  have hR:Rd w2 w1.heap.size w.heap.size v xs false:=⟨by omega,by omega,c0,c1,f0 0,f0 1,(hv.inn.below hb1 (Nat.le_refl _)).below hb2 (by omega)⟩
  have hb3:Below w2.heap.size w2 (w2.alloc (.cells zeroC9.arr 23)):=(Below.refl _ _).alloc (Nat.le_refl _) _
  have h3:=CmdAt.new w2 zeroC9
  rw [z1] at hR
  rw [z2,z1] at h3
  refine ⟨⟨v,hR.below hb3 (by omega)⟩,h3,(h1.below hb2).below hb3,(hb1.trans (hb2.mono (by omega))).trans (hb3.mono (by omega)),(fun h=>by cases h),hB,hl⟩
end Go.Proofs.YtkbbhllchombdaaGreatDoor

namespace Go.Proofs.YtkbbhllchombdaaGreatDoor
open Go.RowKit
attribute [local go_sem ↓] ldE_exec ldE_run stE_exec stE_run ldC_exec ldC_run stC_exec stC_run ldW_exec stW_exec ldR_exec stR_exec ldT_exec stT_exec ldU_exec stU_exec oc_int oc_bool oc_string oc_slice oc_pointer
set_option maxRecDepth 100000 in
set_option maxHeartbeats 1500000 in
theorem readC_any (v:Value) (xs:List Int) (w:World) (hv:Has w v xs) (hB:IsB xs) (hl:xs.length≤1099511627776) :
    Calls Tryz.prog 304 #[v] w fun e w'=>e = .returned (.tuple #[.agg (readC9 xs).1.arr,.int .i64 (readC9 xs).2])∧Below w.heap.size w w':=by
  have hR0:RdC w _ (xs,false) zeroC9:=RdC.new (t:=219) hv hB hl
  have hmf:∀ (fn:Fn) (first cap:Array Value) (w:World),(Instr.makeFunc fn first cap).run Tryz.prog w = .ok (.func fn first cap) w:=fun _ _ _ _=>rfl
  have HC:Hid (rdC9 xs = (⟨(int9 (xs,false)).1,(int9 (int9 (xs,false)).2).1,(int9 (int9 (int9 (xs,false)).2).2).1,(txt9 (int9 (int9 (int9 (int9 (xs,false)).2).2).2).2).1,(txt9 (txt9 (int9 (int9 (int9 (int9 (xs,false)).2).2).2).2).2).1,(txt9 (txt9 (txt9 (int9 (int9 (int9 (int9 (xs,false)).2).2).2).2).2).2).1,(txt9 (txt9 (txt9 (txt9 (int9 (int9 (int9 (int9 (xs,false)).2).2).2).2).2).2).2).1,(int9 (int9 (int9 (int9 (xs,false)).2).2).2).1⟩,(txt9 (txt9 (txt9 (txt9 (int9 (int9 (int9 (int9 (xs,false)).2).2).2).2).2).2).2).2)):=rfl
  have HR:Hid (readC9 xs = if ((rdC9 xs).2.1.isEmpty && !(rdC9 xs).2.2) && good9 (rdC9 xs).1 then ((rdC9 xs).1,0) else (zeroC9,8)):=rfl
  obtain ⟨pb,cb,hvb,-,-,-⟩:=id hv
  generalize hnb:xs.length = nb at hvb
  subst hvb
  clear hnb hv
  generalize ((xs,false):List Int × Bool) = S0 at *
  unfold zeroC9 Cmd9.arr at hR0
  dsimp only at hR0
  go_enter Tryz.func304,Tryz.ntmps304
  go_wp2_with fail
  refine hR0.int.mono ?_
  rintro e w1 ⟨rfl,hR1⟩
  clear hR0
  generalize int9 S0 = A at *
  obtain ⟨z0,S1⟩:=A
  dsimp only at hR1 HC
  go_wp2_with fail
  refine hR1.int.mono ?_
  rintro e w2 ⟨rfl,hR2⟩
  clear hR1
  generalize int9 S1 = A at *
  obtain ⟨z1,S2⟩:=A
  dsimp only at hR2 HC
  go_wp2_with fail
  refine hR2.int.mono ?_
  rintro e w3 ⟨rfl,hR3⟩
  clear hR2
  generalize int9 S2 = A at *
  obtain ⟨z2,S3⟩:=A
  dsimp only at hR3 HC
  go_wp2_with fail
  refine hR3.int.mono ?_
  rintro e w4 ⟨rfl,hR4⟩
  clear hR3
  generalize int9 S3 = A at *
  obtain ⟨z3,S4⟩:=A
  dsimp only at hR4 HC
  have f2:=hR4.cells.1
  obtain ⟨c0,c1,c2,c3,c4,c5,c6,c7⟩:=hR4.box.cells
  dsimp only at c0 c1 c2 c3 c4 c5 c6 c7
  go_wp2_with fail
  have hR5:=(((hR4.put (c':=⟨z0,0,0,em9,em9,em9,em9,0⟩) 0 (.int .i64 z0) (by omega) rfl).put (c':=⟨z0,z1,0,em9,em9,em9,em9,0⟩) 1 (.int .i64 z1) (by omega) rfl).put (c':=⟨z0,z1,z2,em9,em9,em9,em9,0⟩) 2 (.int .i64 z2) (by omega) rfl).put (c':=⟨z0,z1,z2,em9,em9,em9,em9,z3⟩) 7 (.int .i64 z3) (by omega) rfl
  clear hR4 f2 c0 c1 c2 c3 c4 c5 c6 c7
  generalize (((w4.setCell ⟨w.heap.size + 1 + 1,0,none⟩ (.int .i64 z0)).setCell ⟨w.heap.size + 1 + 1,1,none⟩ (.int .i64 z1)).setCell ⟨w.heap.size + 1 + 1,2,none⟩ (.int .i64 z2)).setCell ⟨w.heap.size + 1 + 1,7,none⟩ (.int .i64 z3) = x5 at *
  replace hR5:RdC w x5 S4 _:=hR5
  refine hR5.text.mono ?_
  rintro e w5 ⟨rfl,hR6⟩
  clear hR5
  generalize txt9 S4 = A at *
  obtain ⟨z4,S5⟩:=A
  dsimp only at hR6 HC
  go_wp2_with fail
  refine hR6.text.mono ?_
  rintro e w6 ⟨rfl,hR7⟩
  clear hR6
  generalize txt9 S5 = A at *
  obtain ⟨z5,S6⟩:=A
  dsimp only at hR7 HC
  go_wp2_with fail
  refine hR7.text.mono ?_
  rintro e w7 ⟨rfl,hR8⟩
  clear hR7
  generalize txt9 S6 = A at *
  obtain ⟨z6,S7⟩:=A
  dsimp only at hR8 HC
  go_wp2_with fail
  refine hR8.text.mono ?_
  rintro e w8 ⟨rfl,hR9⟩
  clear hR8
  generalize txt9 S7 = A at *
  obtain ⟨z7,S8⟩:=A
  dsimp only at hR9 HC
  have f2:=hR9.cells.1
  obtain ⟨c0,c1,c2,c3,c4,c5,c6,c7⟩:=hR9.box.cells
  dsimp only at c0 c1 c2 c3 c4 c5 c6 c7
  go_wp2_with fail
  have hRa:=(((hR9.put (c':=⟨z0,z1,z2,z4,em9,em9,em9,z3⟩) 3 (.string z4) (by omega) rfl).put (c':=⟨z0,z1,z2,z4,z5,em9,em9,z3⟩) 4 (.string z5) (by omega) rfl).put (c':=⟨z0,z1,z2,z4,z5,z6,em9,z3⟩) 5 (.string z6) (by omega) rfl).put (c':=⟨z0,z1,z2,z4,z5,z6,z7,z3⟩) 6 (.string z7) (by omega) rfl
  clear hR9 f2 c0 c1 c2 c3 c4 c5 c6 c7
  generalize (((w8.setCell ⟨w.heap.size + 1 + 1,3,none⟩ (.string z4)).setCell ⟨w.heap.size + 1 + 1,4,none⟩ (.string z5)).setCell ⟨w.heap.size + 1 + 1,5,none⟩ (.string z6)).setCell ⟨w.heap.size + 1 + 1,6,none⟩ (.string z7) = x9 at *
  have hfin:=hRa.fin
  rw [HC.out] at HR
  dsimp only at HR
  have hgd:=good_any ⟨z0,z1,z2,z4,z5,z6,z7,z3⟩ x9
  obtain ⟨c0,c1,c2,c3,c4,c5,c6,c7⟩:=hRa.box.cells
  dsimp only at c0 c1 c2 c3 c4 c5 c6 c7
  generalize (S8.1.isEmpty && !S8.2) = fi at *
  cases fi with
  | false =>
    have HR2:Hid (readC9 xs = (zeroC9,8)):=by rw [Hid,HR.out];rfl
    have f0:=hRa.cells.2
    obtain ⟨r0,r1,r2,r3,r4,r5,r6,r7⟩:=hRa.res.cells
    dsimp only [zeroC9] at r0 r1 r2 r3 r4 r5 r6 r7
    clear HR hgd
    refine same_mono hfin ?_
    go_wp2
    have hF:=fill9 hRa.res hRa.bel (Nat.le_refl _) 0 0 0 em9 em9 em9 em9 0
    refine bodyPost_ret (ret_cell9 rfl _ _ w.heap.size _ _ _ _ rfl hF.1 Tryz.underlying23 rfl (by kernel_rfl)) rfl ⟨?_,hF.2⟩
    rw [HR2.out]
    rfl
  | true =>
    refine same_mono hfin ?_
    clear hfin
    go_wp2_with fail
    refine hgd.mono ?_
    rintro e y9 ⟨rfl,hb9⟩
    have hRb:=hRa.below hb9
    have f0:=hRb.cells.2
    obtain ⟨r0,r1,r2,r3,r4,r5,r6,r7⟩:=hRb.res.cells
    dsimp only [zeroC9] at r0 r1 r2 r3 r4 r5 r6 r7
    obtain ⟨d0,d1,d2,d3,d4,d5,d6,d7⟩:=hRb.box.cells
    dsimp only at d0 d1 d2 d3 d4 d5 d6 d7
    clear hgd hRa c0 c1 c2 c3 c4 c5 c6 c7
    generalize good9 _ = g at *
    cases g with
    | false =>
      have HR2:Hid (readC9 xs = (zeroC9,8)):=by rw [Hid,HR.out];rfl
      clear HR
      go_wp2
      have hF:=fill9 hRb.res hRb.bel (Nat.le_refl _) 0 0 0 em9 em9 em9 em9 0
      refine bodyPost_ret (ret_cell9 rfl _ _ w.heap.size _ _ _ _ rfl hF.1 Tryz.underlying23 rfl (by kernel_rfl)) rfl ⟨?_,hF.2⟩
      rw [HR2.out]
      rfl
    | true =>
      have HR2:Hid (readC9 xs = (⟨z0,z1,z2,z4,z5,z6,z7,z3⟩,0)):=by rw [Hid,HR.out];rfl
      clear HR
      go_wp2
      have hF:=fill9 hRb.res hRb.bel (Nat.le_refl _) z0 z1 z2 z4 z5 z6 z7 z3
      refine bodyPost_ret (ret_cell9 rfl _ _ w.heap.size _ _ _ _ rfl hF.1 Tryz.underlying23 rfl (by kernel_rfl)) rfl ⟨?_,hF.2⟩
      rw [HR2.out]
      rfl
set_option maxRecDepth 100000 in
set_option maxHeartbeats 1500000 in
theorem rreadC_any (v:Value) (xs:List Int) (w:World) (hv:Has w v xs) (hB:IsB xs) (hl:xs.length≤1099511627776) :
    Calls Tryz.prog 220 #[v] w fun e w'=>e = .returned (.tuple #[.agg (readC9 xs).1.arr,.int .i64 (readC9 xs).2])∧Below w.heap.size w w':=by
  have hR0:RdC w _ (xs,false) zeroC9:=RdC.new (t:=166) hv hB hl
  have hmf:∀ (fn:Fn) (first cap:Array Value) (w:World),(Instr.makeFunc fn first cap).run Tryz.prog w = .ok (.func fn first cap) w:=fun _ _ _ _=>rfl
  have HC:Hid (rdC9 xs = (⟨(int9 (xs,false)).1,(int9 (int9 (xs,false)).2).1,(int9 (int9 (int9 (xs,false)).2).2).1,(txt9 (int9 (int9 (int9 (int9 (xs,false)).2).2).2).2).1,(txt9 (txt9 (int9 (int9 (int9 (int9 (xs,false)).2).2).2).2).2).1,(txt9 (txt9 (txt9 (int9 (int9 (int9 (int9 (xs,false)).2).2).2).2).2).2).1,(txt9 (txt9 (txt9 (txt9 (int9 (int9 (int9 (int9 (xs,false)).2).2).2).2).2).2).2).1,(int9 (int9 (int9 (int9 (xs,false)).2).2).2).1⟩,(txt9 (txt9 (txt9 (txt9 (int9 (int9 (int9 (int9 (xs,false)).2).2).2).2).2).2).2).2)):=rfl
  have HR:Hid (readC9 xs = if ((rdC9 xs).2.1.isEmpty && !(rdC9 xs).2.2) && good9 (rdC9 xs).1 then ((rdC9 xs).1,0) else (zeroC9,8)):=rfl
  obtain ⟨pb,cb,hvb,-,-,-⟩:=id hv
  generalize hnb:xs.length = nb at hvb
  subst hvb
  clear hnb hv
  generalize ((xs,false):List Int × Bool) = S0 at *
  unfold zeroC9 Cmd9.arr at hR0
  dsimp only at hR0
  go_enter Tryz.func220,Tryz.ntmps220
  go_wp2_with fail
  refine hR0.rint.mono ?_
  rintro e w1 ⟨rfl,hQ0⟩
  clear hR0
  generalize int9 S0 = A at *
  obtain ⟨z0,S1⟩:=A
  dsimp only at hQ0 HC
  have f0:=hQ0.cells.1 0
  have c0:=hQ0.box.cells.1
  dsimp only at c0
  go_wp2_with fail
  have hR1:=hQ0.put (c':=⟨z0,0,0,em9,em9,em9,em9,0⟩) 0 (.int .i64 z0) (by omega) rfl
  clear hQ0 f0 c0
  generalize w1.setCell ⟨w.heap.size + 1 + 1,0,none⟩ (.int .i64 z0) = x1 at *
  refine hR1.rint.mono ?_
  rintro e w2 ⟨rfl,hQ1⟩
  clear hR1
  generalize int9 S1 = A at *
  obtain ⟨z1,S2⟩:=A
  dsimp only at hQ1 HC
  have f1:=hQ1.cells.1 1
  have c1:=hQ1.box.cells.2.1
  dsimp only at c1
  go_wp2_with fail
  have hR2:=hQ1.put (c':=⟨z0,z1,0,em9,em9,em9,em9,0⟩) 1 (.int .i64 z1) (by omega) rfl
  clear hQ1 f1 c1
  generalize w2.setCell ⟨w.heap.size + 1 + 1,1,none⟩ (.int .i64 z1) = x2 at *
  refine hR2.rint.mono ?_
  rintro e w3 ⟨rfl,hQ2⟩
  clear hR2
  generalize int9 S2 = A at *
  obtain ⟨z2,S3⟩:=A
  dsimp only at hQ2 HC
  have f2:=hQ2.cells.1 2
  have c2:=hQ2.box.cells.2.2.1
  dsimp only at c2
  go_wp2_with fail
  have hR3:=hQ2.put (c':=⟨z0,z1,z2,em9,em9,em9,em9,0⟩) 2 (.int .i64 z2) (by omega) rfl
  clear hQ2 f2 c2
  generalize w3.setCell ⟨w.heap.size + 1 + 1,2,none⟩ (.int .i64 z2) = x3 at *
  refine hR3.rint.mono ?_
  rintro e w4 ⟨rfl,hQ3⟩
  clear hR3
  generalize int9 S3 = A at *
  obtain ⟨z3,S4⟩:=A
  dsimp only at hQ3 HC
  have f3:=hQ3.cells.1 7
  have c3:=hQ3.box.cells.2.2.2.2.2.2.2
  dsimp only at c3
  go_wp2_with fail
  have hR4:=hQ3.put (c':=⟨z0,z1,z2,em9,em9,em9,em9,z3⟩) 7 (.int .i64 z3) (by omega) rfl
  clear hQ3 f3 c3
  generalize w4.setCell ⟨w.heap.size + 1 + 1,7,none⟩ (.int .i64 z3) = x4 at *
  refine hR4.rtext.mono ?_
  rintro e w5 ⟨rfl,hQ4⟩
  clear hR4
  generalize txt9 S4 = A at *
  obtain ⟨z4,S5⟩:=A
  dsimp only at hQ4 HC
  have f4:=hQ4.cells.1 3
  have c4:=hQ4.box.cells.2.2.2.1
  dsimp only at c4
  go_wp2_with fail
  have hR5:=hQ4.put (c':=⟨z0,z1,z2,z4,em9,em9,em9,z3⟩) 3 (.string z4) (by omega) rfl
  clear hQ4 f4 c4
  generalize w5.setCell ⟨w.heap.size + 1 + 1,3,none⟩ (.string z4) = x5 at *
  refine hR5.rtext.mono ?_
  rintro e w6 ⟨rfl,hQ5⟩
  clear hR5
  generalize txt9 S5 = A at *
  obtain ⟨z5,S6⟩:=A
  dsimp only at hQ5 HC
  have f5:=hQ5.cells.1 4
  have c5:=hQ5.box.cells.2.2.2.2.1
  dsimp only at c5
  go_wp2_with fail
  have hR6:=hQ5.put (c':=⟨z0,z1,z2,z4,z5,em9,em9,z3⟩) 4 (.string z5) (by omega) rfl
  clear hQ5 f5 c5
  generalize w6.setCell ⟨w.heap.size + 1 + 1,4,none⟩ (.string z5) = x6 at *
  refine hR6.rtext.mono ?_
  rintro e w7 ⟨rfl,hQ6⟩
  clear hR6
  generalize txt9 S6 = A at *
  obtain ⟨z6,S7⟩:=A
  dsimp only at hQ6 HC
  have f6:=hQ6.cells.1 5
  have c6:=hQ6.box.cells.2.2.2.2.2.1
  dsimp only at c6
  go_wp2_with fail
  have hR7:=hQ6.put (c':=⟨z0,z1,z2,z4,z5,z6,em9,z3⟩) 5 (.string z6) (by omega) rfl
  clear hQ6 f6 c6
  generalize w7.setCell ⟨w.heap.size + 1 + 1,5,none⟩ (.string z6) = x7 at *
  refine hR7.rtext.mono ?_
  rintro e w8 ⟨rfl,hQ7⟩
  clear hR7
  generalize txt9 S7 = A at *
  obtain ⟨z7,S8⟩:=A
  dsimp only at hQ7 HC
  have f7:=hQ7.cells.1 6
  have c7:=hQ7.box.cells.2.2.2.2.2.2.1
  dsimp only at c7
  go_wp2_with fail
  have hR8:=hQ7.put (c':=⟨z0,z1,z2,z4,z5,z6,z7,z3⟩) 6 (.string z7) (by omega) rfl
  clear hQ7 f7 c7
  generalize w8.setCell ⟨w.heap.size + 1 + 1,6,none⟩ (.string z7) = x8 at *
  have hfin:=hR8.rfin
  rw [HC.out] at HR
  dsimp only at HR
  have hgd:=rgood_any ⟨z0,z1,z2,z4,z5,z6,z7,z3⟩ x8
  obtain ⟨c0,c1,c2,c3,c4,c5,c6,c7⟩:=hR8.box.cells
  dsimp only at c0 c1 c2 c3 c4 c5 c6 c7
  generalize (S8.1.isEmpty && !S8.2) = fi at *
  cases fi with
  | false =>
    have HR2:Hid (readC9 xs = (zeroC9,8)):=by rw [Hid,HR.out];rfl
    have f0:=hR8.cells.2
    obtain ⟨r0,r1,r2,r3,r4,r5,r6,r7⟩:=hR8.res.cells
    dsimp only [zeroC9] at r0 r1 r2 r3 r4 r5 r6 r7
    clear HR hgd
    refine same_mono hfin ?_
    go_wp2
    have hF:=fill9 hR8.res hR8.bel (Nat.le_refl _) 0 0 0 em9 em9 em9 em9 0
    refine bodyPost_ret (ret_cell9 rfl _ _ w.heap.size _ _ _ _ rfl hF.1 Tryz.underlying23 rfl (by kernel_rfl)) rfl ⟨?_,hF.2⟩
    rw [HR2.out]
    rfl
  | true =>
    refine same_mono hfin ?_
    clear hfin
    go_wp2_with fail
    refine hgd.mono ?_
    rintro e y9 ⟨rfl,hb9⟩
    have hRb:=hR8.below hb9
    have f0:=hRb.cells.2
    obtain ⟨r0,r1,r2,r3,r4,r5,r6,r7⟩:=hRb.res.cells
    dsimp only [zeroC9] at r0 r1 r2 r3 r4 r5 r6 r7
    obtain ⟨d0,d1,d2,d3,d4,d5,d6,d7⟩:=hRb.box.cells
    dsimp only at d0 d1 d2 d3 d4 d5 d6 d7
    clear hgd hR8 c0 c1 c2 c3 c4 c5 c6 c7
    generalize good9 _ = g at *
    cases g with
    | false =>
      have HR2:Hid (readC9 xs = (zeroC9,8)):=by rw [Hid,HR.out];rfl
      clear HR
      go_wp2
      have hF:=fill9 hRb.res hRb.bel (Nat.le_refl _) 0 0 0 em9 em9 em9 em9 0
      refine bodyPost_ret (ret_cell9 rfl _ _ w.heap.size _ _ _ _ rfl hF.1 Tryz.underlying23 rfl (by kernel_rfl)) rfl ⟨?_,hF.2⟩
      rw [HR2.out]
      rfl
    | true =>
      have HR2:Hid (readC9 xs = (⟨z0,z1,z2,z4,z5,z6,z7,z3⟩,0)):=by rw [Hid,HR.out];rfl
      clear HR
      go_wp2
      have hF:=fill9 hRb.res hRb.bel (Nat.le_refl _) z0 z1 z2 z4 z5 z6 z7 z3
      refine bodyPost_ret (ret_cell9 rfl _ _ w.heap.size _ _ _ _ rfl hF.1 Tryz.underlying23 rfl (by kernel_rfl)) rfl ⟨?_,hF.2⟩
      rw [HR2.out]
      rfl
end Go.Proofs.YtkbbhllchombdaaGreatDoor
