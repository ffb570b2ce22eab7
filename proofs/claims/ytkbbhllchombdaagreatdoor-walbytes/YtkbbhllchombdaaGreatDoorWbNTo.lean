import Derived.Test.YtkbbhllchombdaaGreatDoorWaJTo
import Derived.Test.YtkbbhllchombdaaGreatDoorEn6To
import Derived.Test.YtkbbhllchombdaaGreatDoorEr4To
import Derived.Test.YtkbbhllchombdaaGreatDoorRg3
import Derived.Test.YtkbbhllchombdaaGreatDoorDs0To
import Derived.Test.YtkbbhllchombdaaGreatDoorHRowETo
import Derived.ArgAppend
import Derived.Test.YtkbbhllchombdaaGreatDoorWaQTo
import Derived.Test.YtkbbhllchombdaaGreatDoorDkFTo
import Derived.Test.YtkbbhllchombdaaGreatDoorLxTo
import Derived.Test.YtkbbhllchombdaaGreatDoorRf1To
import Derived.Test.YtkbbhllchombdaaGreatDoorWaV
import Derived.Test.YtkbbhllchombdaaGreatDoorEo1
import Derived.Test.YtkbbhllchombdaaGreatDoorEp1To
import Derived.Test.YtkbbhllchombdaaGreatDoorLd
import Derived.Deep.RegionHeld3
namespace Go.Proofs.YtkbbhllchombdaaGreatDoor
open Go.RowKit Go.Shelf
structure HasW (W:World) (s:Sl10) (l:List RecV):Prop where
  n:l.length = s.n
  c:s.n≤s.c
  nl:s.p = none→s.c = 0
  at':0 < s.n→∃ b o,s.p = some ⟨b,o,none⟩∧b < W.heap.size∧∀ i,i < s.n→∀ j,j < 19→W.cell? ⟨b,o + i * 19 + j,none⟩ = (l.getD i noRV).arr[j]?
  all:∀ x ∈ l,FitsR W x
theorem HasW.below {W W':World} {s:Sl10} {l:List RecV} (h:HasW W s l) (hb:Below W.heap.size W W'):HasW W' s l :=
  ⟨h.n,h.c,h.nl,fun h0=>by
    obtain ⟨b,o,hp,hlt,hc⟩:=h.at' h0
    exact ⟨b,o,hp,Nat.lt_of_lt_of_le hlt hb.size,fun i hi j hj=>(hb.cell (p:=⟨b,o + i * 19 + j,none⟩) hlt).trans (hc i hi j hj)⟩,fun e he=>(h.all e he).below hb⟩
theorem RowR.has {T:TypeId} {w:World} {B:Nat} {p:Option Addr} {n c:Nat} {l:List RecV} (h:RowR T w B (.slice p n c) l):HasW w ⟨p,n,c⟩ l:=by
  rcases h.row.2 with ⟨hv,hn⟩ | ⟨g,cap,cur,hv,hB,hg,hnc,_,_,_⟩
  · simp only [Value.slice.injEq] at hv
    obtain ⟨rfl,rfl,rfl⟩:=hv
    exact ⟨hn,Nat.le_refl _,fun _=>rfl,fun h0=>absurd h0 (Nat.lt_irrefl 0),fun e he=>(h.all e he).fits⟩
  · simp only [Value.slice.injEq] at hv
    obtain ⟨rfl,rfl,rfl⟩:=hv
    refine ⟨rfl,hnc,(fun h0=>by cases h0),fun _=>⟨g,0,rfl,(Array.getElem?_eq_some_iff.1 hg).1,fun i hi j hj=>?_⟩,fun e he=>(h.all e he).fits⟩
    have hi':i < l.length:=hi
    have hk:=recsV_at hi' hj
    have hjj:j < ((l.getD i noRV).arr).size:=hj
    rw [Array.getElem?_eq_getElem hjj] at hk ⊢
    have hc:=World.ownsRow.cells h.row (g:=g) rfl (i * 19 + j) _ hk
    rw [Addr.add_lit] at hc
    rw [Nat.zero_add] at hc ⊢
    exact hc
theorem HasW.ld {W:World} {s:Sl10} {l:List RecV} (h:HasW W s l) {j:Nat} (hj:j < s.n):∃ b o,s.p = some ⟨b,o,none⟩∧b < W.heap.size∧(ldW (.pointer (some ⟨b,o + j * 19,none⟩))).run Tryz.prog W = .ok (.agg (l.getD j noRV).arr) W:=by
  obtain ⟨b,o,hp,hlt,hc⟩:=h.at' (by omega)
  refine ⟨b,o,hp,hlt,?_⟩
  refine (run_loadAt_mid W b (o + j * 19) 32 (l.getD j noRV).arr.toList _ (fun i v hi=>?_) Tryz.underlying32 rfl (by rw [rarr_len];kernel_rfl)).trans (by rw [Array.toArray_toList])
  have hi19:i < 19:=by
    have:=(List.getElem?_eq_some_iff.1 hi).1
    rwa [rarr_len] at this
  rw [hc j hj i hi19,← Array.getElem?_toList]
  exact hi
theorem ldE_in {w:World} {b:Nat} {x:RecV} {t:TypeId} {fr:Nat × Nat} (h:w.heap[b]? = some (.cells x.arr t fr)):(ldE (.pointer (some ⟨b,1,none⟩))).run Tryz.prog w = .ok (.agg x.e.arr) w:=by
  refine (run_loadAt_mid w b 1 28 x.e.arr.toList _ (fun i v hi=>?_) Tryz.underlying28 rfl (by rw [arr_len];kernel_rfl)).trans (by rw [Array.toArray_toList])
  have hi13:i < 13:=by
    have:=(List.getElem?_eq_some_iff.1 hi).1
    rwa [arr_len] at this
  rw [box_cell h (1 + i),← hi,Array.getElem?_toList]
  obtain ⟨k,e,hh,ri,rt⟩:=x
  rcases i with _ | _ | _ | _ | _ | _ | _ | _ | _ | _ | _ | _ | _ | i <;> first | rfl | omega
theorem stW_arr {w:World} {b:Nat} (x:RecV) (h:w.there b 0 19):(stW (.pointer (some ⟨b,0,none⟩)) (.agg x.arr)).run Tryz.prog w = .ok () (w.setCells b 0 x.arr.toList):=by
  refine run_storeAt_mid w b 0 32 x.arr h (by show _ = some 19;kernel_rfl) ?_
  have:=all_oneCell_toArray (cs:=x.arr.toList) (rarr_cell x)
  rwa [Array.toArray_toList] at this
theorem getD_mem11 {l:List RecV} {j:Nat} (h:j < l.length):l.getD j noRV ∈ l:=by
  rw [List.getD_eq_getElem?_getD,List.getElem?_eq_getElem h]
  exact List.getElem_mem h
theorem take_snoc11 {l:List RecV} {j:Nat} (h:j < l.length):l.take (j + 1) = l.take j++[l.getD j noRV]:=by
  rw [List.take_add_one,List.getElem?_eq_getElem h,List.getD_eq_getElem?_getD,List.getElem?_eq_getElem h]
  rfl
end Go.Proofs.YtkbbhllchombdaaGreatDoor

namespace Go.Proofs.YtkbbhllchombdaaGreatDoor
open Go.ChangeShapes Go.WideShapes Go.ChangeAt Go.RowKit Go.Deep
section
variable {H:Type} {enc:TypeId × Value→H} {W:World} {spare:Nat→Bool} {held:Bool} {b0 base fuel:Nat}
set_option maxRecDepth 100000 in
theorem hard_in11 {cs:List Value} {x:DataW H × List MemPlace} (hlen:cs.length = 3) (h:DataW.trod enc Tryz.prog W base spare held fuel 30 cs = some x) :
    ∃ A:Hard10,cs = A.arr.toList∧FitsH A:=by
  obtain ⟨xs,k',hk,hxy,_,hxl,hf⟩:=DataW.trod_struct Tryz.underlying30 h
  match xs,hxl,cs,hlen with
  | [y0,y1,y2],_,[v0,v1,v2],_ =>
    have g0:=hf 0 _ rfl
    have g1:=hf 1 _ rfl
    have g2:=hf 2 _ rfl
    simp [show Tryz.prog.cellsOf 3 = 1 by kernel_rfl] at g0 g1 g2
    obtain ⟨z0,hz0,rfl,w0⟩:=DataW.trod_int Tryz.underlying3 g0
    obtain ⟨z1,hz1,rfl,w1⟩:=DataW.trod_int Tryz.underlying3 g1
    obtain ⟨z2,hz2,rfl,w2⟩:=DataW.trod_int Tryz.underlying3 g2
    cases hz0;cases hz1;cases hz2
    exact ⟨⟨z0,z1,z2⟩,rfl,bounds_i64 w0,bounds_i64 w1,bounds_i64 w2⟩
set_option maxRecDepth 100000 in
theorem rec_in11 {cs:List Value} {x:DataW H × List MemPlace} (hlen:cs.length = 19) (h:DataW.trod enc Tryz.prog W base spare held fuel 32 cs = some x) (hw:∀ q ∈ x.1.weights Tryz.prog 32,q≤reachBytes) :
    ∃ A:RecV,cs = A.arr.toList∧FitsR W A:=by
  obtain ⟨xs,k',hk,hxy,_,hxl,hf⟩:=DataW.trod_struct Tryz.underlying32 h
  match xs,hxl,cs,hlen with
  | [y0,y1,y2,y3,y4],_,[v0,v1,v2,v3,v4,v5,v6,v7,v8,v9,v10,v11,v12,v13,v14,v15,v16,v17,v18],_ =>
    have g0:=hf 0 _ rfl
    have g1:=hf 1 _ rfl
    have g2:=hf 2 _ rfl
    have g3:=hf 3 _ rfl
    have g4:=hf 4 _ rfl
    simp [show Tryz.prog.cellsOf 28 = 13 by kernel_rfl,show Tryz.prog.cellsOf 3 = 1 by kernel_rfl,show Tryz.prog.cellsOf 30 = 3 by kernel_rfl] at g0 g1 g2 g3 g4
    simp only [List.map_cons,List.map_nil] at hxy
    have hx1:x.1 = .agg [y0.1,y1.1,y2.1,y3.1,y4.1]:=by rw [hxy]
    rw [hx1] at hw
    simp only [DataW.weights,Tryz.underlying32,DataW.weightsEach,List.map_cons,List.map_nil,List.append_nil,List.mem_append] at hw
    obtain ⟨z0,hz0,rfl,w0⟩:=DataW.trod_int Tryz.underlying3 g0
    obtain ⟨z3,hz3,rfl,w3⟩:=DataW.trod_int Tryz.underlying3 g3
    obtain ⟨z4,hz4,rfl,w4⟩:=DataW.trod_int Tryz.underlying3 g4
    cases hz0;cases hz3;cases hz4
    obtain ⟨e,he,fe⟩:=ent_in10 rfl g1 fun q hq=>hw q (by simp only [hq,true_or,or_true])
    obtain ⟨d,hd,fd⟩:=hard_in11 rfl g2
    simp only [EntV.arr,List.cons.injEq,and_true] at he
    simp only [Hard10.arr,List.cons.injEq,and_true] at hd
    obtain ⟨rfl,rfl,rfl,rfl,rfl,rfl,rfl,rfl,rfl,rfl,rfl,rfl,rfl⟩:=he
    obtain ⟨rfl,rfl,rfl⟩:=hd
    exact ⟨⟨z0,e,d,z3,z4⟩,rfl,⟨bounds_i64 w0,fe,fd,bounds_i64 w3,bounds_i64 w4⟩⟩
set_option maxRecDepth 100000 in
theorem open_rec11 {v:Value} {d:DataW H} {p:List MemPlace} (hv:Value.okWide Tryz.prog W .any b0 32 v) (h:DataW.Trod enc Tryz.prog W base spare held 32 v d p) (hw:∀ q ∈ d.weights Tryz.prog 32,q≤reachBytes) :
    ∃ A:RecV,v = .agg A.arr∧FitsR W A:=by
  obtain ⟨cs,rfl,hsz⟩:=okWide_struct Tryz.underlying32 hv
  rw [show Tryz.prog.cellsOf 32 = 19 by kernel_rfl] at hsz
  obtain ⟨fuel,hf⟩:=h
  obtain ⟨A,hA,hF⟩:=rec_in11 (x:=(d,p)) (by simpa [Value.cells] using hsz) hf hw
  refine ⟨A,?_,hF⟩
  rw [show cs = A.arr from Array.toList_inj.1 (by simpa [Value.cells] using hA)]
set_option maxRecDepth 100000 in
theorem open_name11 {v:Value} {d:DataW H} {p:List MemPlace} (hv:Value.okWide Tryz.prog W .any b0 35 v) (h:DataW.Trod enc Tryz.prog W base spare held 35 v d p) (hw:∀ q ∈ d.weights Tryz.prog 35,q≤reachBytes) :
    ∃ (N:Int) (S:ByteArray),v = .agg #[.int .i64 N,.string S]∧inI N∧S.size≤140737488355328:=by
  obtain ⟨cs,rfl,hsz⟩:=okWide_struct Tryz.underlying35 hv
  rw [show Tryz.prog.cellsOf 35 = 2 by kernel_rfl] at hsz
  obtain ⟨fuel,hf⟩:=h
  obtain ⟨xs,k',hk,hxy,_,hxl,hf⟩:=DataW.trod_struct Tryz.underlying35 hf
  match xs,hxl,cs,hsz with
  | [y0,y1],_,⟨[v0,v1]⟩,_ =>
    have g0:=hf 0 _ rfl
    have g1:=hf 1 _ rfl
    simp [show Tryz.prog.cellsOf 3 = 1 by kernel_rfl,show Tryz.prog.cellsOf 9 = 1 by kernel_rfl,Value.cells] at g0 g1
    simp only [Prod.mk.injEq,List.map_cons,List.map_nil] at hxy
    obtain ⟨rfl,-⟩:=hxy
    simp only [DataW.weights,Tryz.underlying35,DataW.weightsEach,List.map_cons,List.map_nil,List.append_nil,List.mem_append] at hw
    obtain ⟨z0,hz0,rfl,w0⟩:=DataW.trod_int Tryz.underlying3 g0
    obtain ⟨s1,hs1,rfl,_⟩:=DataW.trod_string Tryz.underlying9 g1
    cases hz0;cases hs1
    have q1:=hw s1.data.toList.length (by simp [DataW.weights])
    unfold reachBytes at q1
    rw [Array.length_toList] at q1
    refine ⟨z0,s1,rfl,bounds_i64 w0,?_⟩
    show s1.data.size≤_
    omega
end
end Go.Proofs.YtkbbhllchombdaaGreatDoor

namespace Go.Proofs.YtkbbhllchombdaaGreatDoor
open Go.RowKit Go.Shelf
structure Stay (G:Nat→Prop) (t:TypeId) (X Y:World):Prop where
  size:X.heap.size≤Y.heap.size
  block:∀ b a fr,G b→X.heap[b]? = some (.cells a t fr)→Y.heap[b]? = some (.cells a t fr)
section
variable {G H S:Nat→Prop} {t:TypeId} {X Y Z:World}
theorem Stay.of_turn (h:Turn S X Y) (hs:∀ k,G k→¬ S k):Stay G t X Y:=⟨h.size,fun b _ _ hg hb=>(h.block b (box_lt hb) (hs b hg)).trans hb⟩
theorem Stay.of_below (h:Below X.heap.size X Y):Stay G t X Y:=⟨h.size,fun b _ _ _ hb=>(h.block b (box_lt hb)).trans hb⟩
theorem Stay.of_grown {row:Option Nat} (h:X.grownBy Y row) (hr:∀ k,row = some k→∀ a fr,X.heap[k]? ≠ some (.cells a t fr)):Stay G t X Y :=
  ⟨h.size,fun b a fr _ hb=>(h.block b (box_lt hb) (fun e=>hr b e.symm a fr hb)).trans hb⟩
theorem Stay.of_set {b i:Nat} {c:Array Value} {t':TypeId} {f:Nat × Nat} (hb:X.heap[b]? = some (.cells c t' f)) (hne:t' ≠ t) (v:Value):Stay G t X (X.setCell ⟨b,i,none⟩ v) :=
  Stay.of_grown (grown_set X b i v) fun k hk a fr he=>by
    cases hk
    rw [hb] at he
    simp only [Option.some.injEq,Obj.cells.injEq] at he
    exact hne he.2.1
theorem Stay.mono (h:Stay G t X Y) (hg:∀ k,H k→G k):Stay H t X Y:=⟨h.size,fun b a fr hb he=>h.block b a fr (hg b hb) he⟩
end
structure ListG (w:World) (G:Nat→Prop) (s:Sl10) (xs:List Int):Prop where
  has:HasI w (.slice s.p s.n s.c) xs
  blk:0 < s.n→∃ b o a fr,s.p = some ⟨b,o,none⟩∧G b∧w.heap[b]? = some (.cells a 3 fr)
section
variable {G H:Nat→Prop} {X Y:World} {s:Sl10} {xs:List Int}
theorem ListG.stay (h:ListG X G s xs) (k:Stay G 3 X Y):ListG Y G s xs:=by
  refine ⟨?_,fun h0=>?_⟩
  · obtain ⟨p,c,hv,h1,h2,h3⟩:=h.has
    refine ⟨p,c,hv,h1,h2,fun h0=>?_⟩
    obtain ⟨b,o,rfl,hlt,hc⟩:=h3 h0
    have hn:0 < s.n:=by
      simp only [Value.slice.injEq] at hv
      omega
    obtain ⟨b',o',a,fr,hp,hg,hb⟩:=h.blk hn
    simp only [Value.slice.injEq] at hv
    rw [hv.1] at hp
    cases hp
    have hb2:=k.block _ _ _ hg hb
    exact ⟨b,o,rfl,box_lt hb2,fun i hi=>(World.cell?_of_block (a:=⟨b,o + i,none⟩) (hb2.trans hb.symm)).trans (hc i hi)⟩
  · obtain ⟨b,o,a,fr,hp,hg,hb⟩:=h.blk h0
    exact ⟨b,o,a,fr,hp,hg,k.block _ _ _ hg hb⟩
theorem ListG.mono (h:ListG X G s xs) (hg:∀ k,G k→H k):ListG X H s xs:=⟨h.has,fun h0=>by
  obtain ⟨b,o,a,fr,hp,h1,hb⟩:=h.blk h0
  exact ⟨b,o,a,fr,hp,hg b h1,hb⟩⟩
theorem ListG.of_owns {B:Nat} (h:OwnsI X B (.slice s.p s.n s.c) xs) (hG:∀ k,B≤k→k < X.heap.size→G k):ListG X G s xs:=by
  refine ⟨h.has,fun h0=>?_⟩
  rcases h.2 with ⟨hv,hn⟩ | ⟨g,cap,cur,hv,hB,hg,_,_,_,_⟩
  · simp only [Value.slice.injEq] at hv
    omega
  · simp only [Value.slice.injEq] at hv
    exact ⟨g,0,cur,_,hv.1,hG g hB (box_lt hg),hg⟩
end
structure EntG (w:World) (G:Nat→Prop) (x:EntV):Prop where
  i:inI x.i
  t:inI x.t
  k:inI x.k
  c:Fits9 x.c
  u:ListG w G x.f.u x.f.f.vs
  v:ListG w G x.f.v x.f.f.ls
  iu:inL x.f.f.vs
  iv:inL x.f.f.ls
  lu:x.f.f.vs.length≤1000000
  lv:x.f.f.ls.length≤1000000
structure RecG (w:World) (G:Nat→Prop) (x:RecV):Prop where
  k:inI x.k
  e:EntG w G x.e
  h:FitsH x.h
  i:inI x.i
  t:inI x.t
section
variable {G H:Nat→Prop} {X Y:World} {x:EntV} {r:RecV}
theorem EntG.stay (h:EntG X G x) (k:Stay G 3 X Y):EntG Y G x:=⟨h.i,h.t,h.k,h.c,h.u.stay k,h.v.stay k,h.iu,h.iv,h.lu,h.lv⟩
theorem EntG.mono (h:EntG X G x) (hg:∀ k,G k→H k):EntG X H x:=⟨h.i,h.t,h.k,h.c,h.u.mono hg,h.v.mono hg,h.iu,h.iv,h.lu,h.lv⟩
theorem EntG.fits (h:EntG X G x):FitsE X x:=⟨h.i,h.t,h.k,h.c,⟨h.u.has,h.v.has,h.iu,h.iv,Nat.le_trans h.lu (by decide),Nat.le_trans h.lv (by decide)⟩⟩
theorem EntG.of_owns {B:Nat} (h:OwnsE X B x) (hG:∀ k,B≤k→k < X.heap.size→G k):EntG X G x:=⟨h.i,h.t,h.k,h.c,.of_owns h.f.u hG,.of_owns h.f.v hG,h.f.iu,h.f.iv,h.f.lu,h.f.lv⟩
theorem ListG.nil (X:World) (G:Nat→Prop):ListG X G nilS10 []:=⟨HasI.nil X,fun h=>absurd h (Nat.lt_irrefl 0)⟩
theorem EntG.nil (X:World) (G:Nat→Prop):EntG X G noEV:=⟨in0,in0,in0,fits_zeroC,.nil X G,.nil X G,(fun _ h=>by cases h),(fun _ h=>by cases h),Nat.zero_le _,Nat.zero_le _⟩
theorem RecG.stay (h:RecG X G r) (k:Stay G 3 X Y):RecG Y G r:=⟨h.k,h.e.stay k,h.h,h.i,h.t⟩
theorem RecG.mono (h:RecG X G r) (hg:∀ k,G k→H k):RecG X H r:=⟨h.k,h.e.mono hg,h.h,h.i,h.t⟩
theorem RecG.fits (h:RecG X G r):FitsR X r:=⟨h.k,h.e.fits,h.h,h.i,h.t⟩
theorem RecG.of_owns {B:Nat} (h:OwnsR X B r) (hG:∀ k,B≤k→k < X.heap.size→G k):RecG X G r:=⟨h.k,.of_owns h.e hG,h.h,h.i,h.t⟩
end
def Sl10.blk (s:Sl10):Option Nat:=if s.c = 0 then none else s.p.map fun a=>a.block
structure RowG (w:World) (G:Nat→Prop) (s:Sl10) (es:List EntV):Prop where
  n:es.length = s.n
  c:s.n≤s.c
  nl:s.p = none→s.c = 0
  at':0 < s.c→∃ g o a,s.p = some ⟨g,o,none⟩∧G g∧w.heap[g]? = some (.cells a 28 (0,0))∧o + s.c * 13≤a.size∧∀ i,i < s.n→∀ j,j < 13→a[o + i * 13 + j]? = (es.getD i noEV).arr[j]?
  all:∀ e ∈ es,EntG w G e
section
variable {G H:Nat→Prop} {X Y:World} {s:Sl10} {es:List EntV}
theorem RowG.nil (X:World) (G:Nat→Prop):RowG X G nilS10 []:=⟨rfl,Nat.le_refl _,fun _=>rfl,fun h=>absurd h (Nat.lt_irrefl 0),fun _ h=>by cases h⟩
theorem RowG.mono (h:RowG X G s es) (hg:∀ k,G k→H k):RowG X H s es:=⟨h.n,h.c,h.nl,fun h0=>by
  obtain ⟨g,o,a,h1,h2,h3⟩:=h.at' h0
  exact ⟨g,o,a,h1,hg g h2,h3⟩,fun e he=>(h.all e he).mono hg⟩
theorem RowG.stay (h:RowG X G s es) (k1:Stay G 3 X Y) (k2:Stay G 28 X Y):RowG Y G s es:=⟨h.n,h.c,h.nl,fun h0=>by
  obtain ⟨g,o,a,h1,h2,h3,h4⟩:=h.at' h0
  exact ⟨g,o,a,h1,h2,k2.block _ _ _ h2 h3,h4⟩,fun e he=>(h.all e he).stay k1⟩
theorem RowG.has (h:RowG X G s es):HasE X s es:=⟨h.n,h.c,h.nl,fun h0=>by
  obtain ⟨g,o,a,h1,h2,h3,h4,h5⟩:=h.at' (Nat.lt_of_lt_of_le h0 h.c)
  exact ⟨g,o,h1,box_lt h3,fun i hi j hj=>(box_cell h3 _).trans (h5 i hi j hj)⟩,fun e he=>(h.all e he).fits⟩
theorem RowG.blk (h:RowG X G s es) {k:Nat} (hk:s.blk = some k):G k∧∃ a,X.heap[k]? = some (.cells a 28 (0,0)):=by
  unfold Sl10.blk at hk
  split at hk
  · cases hk
  · obtain ⟨g,o,a,h1,h2,h3,h4,h5⟩:=h.at' (by omega)
    rw [h1] at hk
    simp only [Option.map_some,Option.some.injEq] at hk
    subst hk
    exact ⟨h2,a,h3⟩
theorem RowG.lists (h:RowG X G s es) (hg:X.grownBy Y s.blk):Stay H 3 X Y:=Stay.of_grown hg fun k hk a fr he=>by
  obtain ⟨_,c,hc⟩:=h.blk hk
  rw [hc] at he
  simp only [Option.some.injEq,Obj.cells.injEq] at he
  exact absurd he.2.1 (by decide)
theorem RowG.of_owns {B:Nat} (h:X.ownsRow B 28 13 (.slice s.p s.n s.c) es.length (entsV es)) (hG:∀ k,B≤k→k < X.heap.size→G k) (ha:∀ e ∈ es,EntG X G e):RowG X G s es:=by
  rcases h.2 with ⟨hv,hn⟩ | ⟨g,cap,cur,hv,hB,hg,hnc,_,hcs,htake⟩
  · simp only [Value.slice.injEq] at hv
    obtain ⟨h1,h2,h3⟩:=hv
    exact ⟨by omega,by omega,fun _=>h3,fun h0=>by omega,ha⟩
  · simp only [Value.slice.injEq] at hv
    obtain ⟨h1,h2,h3⟩:=hv
    refine ⟨h2.symm,by omega,(fun h0=>by rw [h1] at h0;cases h0),fun h0=>⟨g,0,cur,h1,hG g hB (box_lt hg),hg,?_,fun i hi j hj=>?_⟩,ha⟩
    · rw [Nat.zero_add,h3,← hcs];exact Nat.le_refl _
    · have hi':i < es.length:=by omega
      have hk:=entsV_at hi' hj
      have hjj:j < ((es.getD i noEV).arr).size:=hj
      rw [Array.getElem?_eq_getElem hjj] at hk ⊢
      have hc:=World.ownsRow.cells h (g:=g) (by rw [h1];rfl) (i * 13 + j) _ hk
      rw [Addr.add_lit,box_cell hg,← Nat.add_assoc] at hc
      exact hc
end
end Go.Proofs.YtkbbhllchombdaaGreatDoor

namespace Go.Proofs.YtkbbhllchombdaaGreatDoor
open Go.RowKit Go.Shelf
attribute [local go_sem ↓] ldE_exec stE_exec ldE_execI stE_execI ldE_run ldE_box stE_box ldC_exec stC_exec ldC_execI stC_execI ldC_run ldW_exec stW_exec ldW_execI stW_execI ldW_box stW_box ldR_exec stR_exec ldR_execI stR_execI ldR_box stR_box ldT_exec stT_exec ldT_execI stT_execI ldT_box ldU_exec stU_exec ldU_execI stU_execI ldH_exec stH_exec ldH_execI stH_execI ldH_run ldH_box stH_box oc_int oc_bool oc_string oc_slice oc_pointer
set_option maxRecDepth 100000 in
set_option maxHeartbeats 1000000 in
theorem takesP_any (w:World) (x:RecV) (base last:Int) (hb:inI base) (hx:inI x.e.i):Calls Tryz.prog 161 #[.int .i64 base,.int .i64 last,.agg x.arr] w fun e w'=>e = .returned (.bool (takes11 base last x.r))∧Below w.heap.size w w':=by
  have hb1:Below w.heap.size w (w.alloc (.cells x.arr 32)):=(Below.refl _ _).alloc (Nat.le_refl _) _
  have hbox:=heap_alloc_new w (.cells x.arr 32)
  have y0:(w.alloc (.cells x.arr 32)).cell? ⟨w.heap.size,0,none⟩ = some (.int .i64 x.k):=box_cell hbox 0
  have y1:(w.alloc (.cells x.arr 32)).cell? ⟨w.heap.size,1,none⟩ = some (.int .i64 x.e.i):=box_cell hbox 1
  have y2:(w.alloc (.cells x.arr 32)).cell? ⟨w.heap.size,17,none⟩ = some (.int .i64 x.i):=box_cell hbox 17
  have P1:Hid (x.k = 1→takes11 base last x.r = (decide (base < x.e.i) && decide (x.e.i - 1≤last))):=fun h=>if_pos h
  have P2:Hid (x.k = 2→takes11 base last x.r = true):=fun h=>(if_neg (show ¬ x.k = 1 by omega)).trans (if_pos h)
  have P3:Hid (x.k = 3→takes11 base last x.r = decide (base≤x.i)):=fun h=>(if_neg (show ¬ x.k = 1 by omega)).trans ((if_neg (show ¬ x.k = 2 by omega)).trans (if_pos h))
  have P4:Hid (x.k ≠ 1→x.k ≠ 2→x.k ≠ 3→takes11 base last x.r = false):=fun h1 h2 h3=>(if_neg h1).trans ((if_neg h2).trans (if_neg h3))
  generalize takes11 base last x.r = g at *
  clear hbox
  unfold inI at hb hx
  obtain ⟨hx1,hx2⟩:=hx
  obtain ⟨hba,hbb⟩:=hb
  by_cases e1:x.k = 1
  · rw [e1] at y0
    by_cases hlt:base < x.e.i
    · have HF:Hid (g = decide (x.e.i - 1≤last)):=by
        show _ = _
        rw [P1.out e1,decide_eq_true hlt,Bool.true_and]
      clear P1 P2 P3 P4
      go_enter Tryz.func161,Tryz.ntmps161
      go_wp2
      go_ret
      exact ⟨by rw [HF.out];rfl,hb1⟩
    · have HF:Hid (g = false):=by
        show _ = _
        rw [P1.out e1,decide_eq_false hlt,Bool.false_and]
      clear P1 P2 P3 P4
      go_enter Tryz.func161,Tryz.ntmps161
      go_wp2
      go_ret
      exact ⟨by rw [HF.out];rfl,hb1⟩
  have e1':(x.k == 1) = false:=by simpa using e1
  by_cases e2:x.k = 2
  · have HF:Hid (g = true):=P2.out e2
    rw [e2] at y0
    clear P1 P2 P3 P4 e1 e1'
    go_enter Tryz.func161,Tryz.ntmps161
    go_wp2
    go_ret
    exact ⟨by rw [HF.out];rfl,hb1⟩
  have e2':(x.k == 2) = false:=by simpa using e2
  by_cases e3:x.k = 3
  · have HF:Hid (g = decide (base≤x.i)):=P3.out e3
    rw [e3] at y0
    clear P1 P2 P3 P4 e1 e1' e2 e2'
    go_enter Tryz.func161,Tryz.ntmps161
    go_wp2
    go_ret
    exact ⟨by rw [HF.out];rfl,hb1⟩
  have e3':(x.k == 3) = false:=by simpa using e3
  have HF:Hid (g = false):=P4.out e1 e2 e3
  clear P1 P2 P3 P4
  go_enter Tryz.func161,Tryz.ntmps161
  go_wp2
  go_ret
  exact ⟨by rw [HF.out];rfl,hb1⟩
def SAt (w:World) (b:Nat) (T:TypeId) (pre:List Value) (x:StaV) (post:List Value):Prop:=w.heap[b]? = some (.cells (pre++x.arr.toList++post).toArray T (0,0))
section
variable {w w':World} {b:Nat} {T:TypeId} {pre post:List Value} {x:StaV}
theorem SAt.lt (h:SAt w b T pre x post):b < w.heap.size:=box_lt h
theorem SAt.cell (h:SAt w b T pre x post) {j:Nat} (hj:j < 6):w.cell? ⟨b,pre.length + j,none⟩ = x.arr[j]?:=by
  have hs:x.arr.toList.length = 6:=rfl
  rw [box_cell h,← Array.getElem?_toList,← Array.getElem?_toList]
  show (pre++x.arr.toList++post)[pre.length + j]? = _
  rw [List.append_assoc,List.getElem?_append_right (by omega),Nat.add_sub_cancel_left,List.getElem?_append_left (by omega)]
theorem SAt.cells (h:SAt w b T pre x post):w.cell? ⟨b,pre.length,none⟩ = some (.int .i64 x.i)∧w.cell? ⟨b,pre.length + 1,none⟩ = some (.int .i64 x.t)∧w.cell? ⟨b,pre.length + 2,none⟩ = some (.int .i64 x.h.t)∧w.cell? ⟨b,pre.length + 3,none⟩ = some (.int .i64 x.h.v)∧w.cell? ⟨b,pre.length + 4,none⟩ = some (.int .i64 x.h.c)∧w.cell? ⟨b,pre.length + 5,none⟩ = some (.slice x.w.p x.w.n x.w.c) :=
  ⟨h.cell (j:=0) (by decide),h.cell (j:=1) (by decide),h.cell (j:=2) (by decide),h.cell (j:=3) (by decide),h.cell (j:=4) (by decide),h.cell (j:=5) (by decide)⟩
theorem SAt.frozen (h:SAt w b T pre x post) (i:Nat):w.frozen? ⟨b,i,none⟩ = false:=frozen9 h i
theorem SAt.sets (h:SAt w b T pre x post) (j:Nat) (vs:List Value) (y:StaV) (hl:j + vs.length≤6) (hy:y.arr.toList = x.arr.toList.take j++vs++x.arr.toList.drop (j + vs.length)):SAt (w.setCells b (pre.length + j) vs) b T pre y post:=by
  have hs:x.arr.toList.length = 6:=rfl
  refine setCells_box h _ _ _ (by simp only [List.size_toArray,List.length_append];omega) ?_
  rw [hy]
  show pre++(x.arr.toList.take j++vs++x.arr.toList.drop (j + vs.length))++post = (pre++x.arr.toList++post).take (pre.length + j)++vs++(pre++x.arr.toList++post).drop (pre.length + j + vs.length)
  have e1:(pre++x.arr.toList++post).take (pre.length + j) = pre++x.arr.toList.take j:=by
    rw [List.append_assoc,List.take_length_add_append,List.take_append_of_le_length (by omega)]
  have e2:(pre++x.arr.toList++post).drop (pre.length + j + vs.length) = x.arr.toList.drop (j + vs.length)++post:=by
    rw [List.append_assoc,Nat.add_assoc,List.drop_length_add_append,List.drop_append_of_le_length (by omega)]
  rw [e1,e2]
  simp only [List.append_assoc]
theorem SAt.below (h:SAt w b T pre x post) (hb:Below w.heap.size w w'):SAt w' b T pre x post:=box_below h hb
theorem SAt.same (h:SAt w b T pre x post) (hb:w'.heap[b]? = w.heap[b]?):SAt w' b T pre x post:=hb.trans h
end
theorem entAt11 (es:List EntV) (j:Nat):(es.map EntV.e).getD j noE10 = (es.getD j noEV).e:=by
  rw [List.getD_eq_getElem?_getD,List.getD_eq_getElem?_getD,List.getElem?_map]
  cases es[j]? <;> rfl
theorem HasE.idx {W:World} {s:Sl10} {es:List EntV} (h:HasE W s es) {j:Nat} (hj:j < s.n):∃ b o,s.p = some ⟨b,o,none⟩∧b < W.heap.size∧W.cell? ⟨b,o + j * 13,none⟩ = some (.int .i64 (es.getD j noEV).i):=by
  obtain ⟨b,o,hp,hlt,hc⟩:=h.at' (by omega)
  exact ⟨b,o,hp,hlt,hc j hj 0 (by decide)⟩
set_option maxRecDepth 100000 in
set_option maxHeartbeats 1000000 in
theorem lastP_any (w:World) (b:Nat) (T:TypeId) (pre post:List Value) (x:StaV) (hS:SAt w b T pre x post) (hE:HasE w x.w x.es) (hl:x.es.length≤1099511627776) :
    Calls Tryz.prog 162 #[.pointer (some ⟨b,pre.length,none⟩)] w fun e w'=>e = .returned (.int .i64 (last11 x.s))∧Below w.heap.size w w':=by
  obtain ⟨c0,-,-,-,-,c5⟩:=hS.cells
  have hlt:=hS.lt
  have hn:=hE.n
  have HL:Hid (last11 x.s = if x.es.length = 0 then x.i else (x.es.getD (x.es.length - 1) noEV).i):=by
    show last11 x.s = _
    unfold last11
    show (if (x.es.map EntV.e).length = 0 then x.i else ((x.es.map EntV.e).getD ((x.es.map EntV.e).length - 1) noE10).i) = _
    rw [List.length_map,entAt11]
    rfl
  have K:Hid (0 < x.w.n→∃ b o,x.w.p = some ⟨b,o,none⟩∧b < w.heap.size∧w.cell? ⟨b,o + (x.w.n - 1) * 13,none⟩ = some (.int .i64 (x.es.getD (x.w.n - 1) noEV).i)):=fun h=>hE.idx (by omega)
  have hc:=hE.c
  generalize last11 x.s = L at *
  rw [hn] at HL hl
  clear hS hE hn
  generalize pre.length = o at *
  obtain ⟨i,t,h,⟨p,n,c⟩,es⟩:=x
  dsimp only at *
  by_cases h0:n = 0
  · have HF:Hid (L = i):=by show _ = _;rw [HL.out,if_pos h0]
    subst h0
    clear HL K
    go_enter Tryz.func162,Tryz.ntmps162
    go_wp2
    go_ret
    exact ⟨by rw [HF.out];rfl,Below.refl _ _⟩
  · have HF:Hid (L = (es.getD (n - 1) noEV).i):=by show _ = _;rw [HL.out,if_neg h0]
    obtain ⟨g,o',rfl,hg,hcell⟩:=K.out (by omega)
    have h0':((n:Int) == 0) = false:=by simpa using h0
    generalize (es.getD (n - 1) noEV).i = z at *
    obtain ⟨m,rfl⟩:∃ m,n = m + 1:=⟨n - 1,by omega⟩
    rw [Nat.add_sub_cancel] at hcell
    clear HL K h0
    go_enter Tryz.func162,Tryz.ntmps162
    go_wp2
    go_quiet (fail)
    go_wp2
    go_ret
    exact ⟨by rw [HF.out];rfl,below_drewN (Below.refl _ _) _⟩
theorem elemE11:Elem8 Tryz.prog 66 28 13 168:=elem8 Tryz.underlying66 (z:=.agg noEV.arr) (by kernel_rfl) rfl (by decide)
theorem earr_cell (x:EntV):∀ u ∈ x.arr.toList,u.oneCell' = true:=by
  intro u hu
  have:=entsV_cell [x] u
  rw [entsV_one] at this
  exact this hu
theorem grown_any {w w':World} (h:w.grownBy w' none) (r:Option Nat):w.grownBy w' r:=⟨h.os,h.tape,h.output,h.size,fun k hk _=>h.block k hk (fun e=>by cases e)⟩
theorem blk_eq {s:Sl10} {g o:Nat} (hp:s.p = some ⟨g,o,none⟩) (hc:0 < s.c):s.blk = some g:=by
  unfold Sl10.blk
  rw [if_neg (by omega),hp]
  rfl
theorem row_left11 {w w':World} {B e s n r:Nat} {v:Value} {xs:List Value} (h:w.ownsRow B e s v n xs) (hg:w.grownBy w' (some r)) (hr:r < B):w'.ownsRow B e s v n xs:=World.ownsRow.kept h hg (by
  cases hv:v.ownBlock with
  | none=>exact .inl rfl
  | some k =>
    have:=(World.ownsRow.lt h k hv).1
    exact .inr (fun e=>by cases e;omega))
theorem more_in {G:Nat→Prop} {X Y:World}:∀ k,G k→more8 G X Y k:=fun _ h=>.inl h
theorem more_new {G:Nat→Prop} {X Y:World} {B:Nat} (hB:X.heap.size≤B):∀ k,B≤k→k < Y.heap.size→more8 G X Y k:=fun _ h1 h2=>.inr ⟨by omega,h2⟩
theorem put_len {l vs:List Value} {o:Nat} (h:o + vs.length≤l.length):(l.take o++vs++l.drop (o + vs.length)).length = l.length:=by
  simp only [List.length_append,List.length_take,List.length_drop]
  omega
theorem put_old {l vs:List Value} {o i:Nat} (h:o + vs.length≤l.length) (hi:i < o):(l.take o++vs++l.drop (o + vs.length))[i]? = l[i]?:=by
  rw [List.append_assoc,List.getElem?_append_left (by rw [List.length_take];omega),List.getElem?_take_of_lt hi]
theorem put_new {l vs:List Value} {o i:Nat} (h:o + vs.length≤l.length) (hi:i < vs.length):(l.take o++vs++l.drop (o + vs.length))[o + i]? = vs[i]?:=by
  rw [List.append_assoc,List.getElem?_append_right (by rw [List.length_take];omega),List.length_take,Nat.min_eq_left (by omega),Nat.add_sub_cancel_left,List.getElem?_append_left hi]
theorem run_rowG (w:World) (ty:TypeId) (G:Nat→Prop) (s:Sl10) (es:List EntV) (x:EntV) (u:Value) (h:RowG w G s es) (hx:EntG w G x) (hu:HasR w 13 u 1 x.arr.toList) (hl:es.length≤1000000000) :
    ∃ s' w',(Builtin.append_ #[66,66] ty #[.slice s.p s.n s.c,u]).run Tryz.prog w = .ok (.slice (Sl10.p s') (Sl10.n s') (Sl10.c s')) w'∧RowG w' (more8 G w w') s' (es++[x])∧w.grownBy w' s.blk∧(s'.blk = s.blk∨∃ k,s'.blk = some k∧w.heap.size≤k):=by
  obtain ⟨i,z,hi,hz,hsize,hbytes,hzs⟩:=elemE11.info
  have hn:=h.n
  have fresh:∀ v' w',w'.ownsRow w.heap.size 28 13 v' (s.n + 1) (entsV es++x.arr.toList)→w.grownBy w' none→∃ s',v' = .slice (Sl10.p s') (Sl10.n s') (Sl10.c s')∧RowG w' (more8 G w w') s' (es++[x])∧w.grownBy w' s.blk∧(s'.blk = s.blk∨∃ k,s'.blk = some k∧w.heap.size≤k):=by
    intro v' w' ho hg
    obtain ⟨p,n,c,rfl⟩:=row_shape11 ho
    have hR:RowG w' (more8 G w w') ⟨p,n,c⟩ (es++[x]):=by
      refine RowG.of_owns (B:=w.heap.size) ?_ (more_new (Nat.le_refl _)) fun e he=>?_
      · rw [entsV_append,entsV_one,List.length_append,hn]
        exact ho
      · have hst:Stay G 3 w w':=Stay.of_grown hg fun k hk=>by cases hk
        rcases List.mem_append.1 he with he | he
        · exact ((h.all e he).stay hst).mono more_in
        · rw [List.mem_singleton.1 he]
          exact (hx.stay hst).mono more_in
    refine ⟨⟨p,n,c⟩,rfl,hR,grown_any hg _,?_⟩
    cases hk:Sl10.blk ⟨p,n,c⟩ with
    | none =>
      exfalso
      rcases ho.2 with ⟨hv,h0⟩ | ⟨g,cap,cur,hv,hB,_,hnc,_⟩
      · omega
      · simp only [Value.slice.injEq] at hv
        rw [blk_eq (g:=g) (o:=0) hv.1 (by show 0 < c;omega)] at hk
        cases hk
    | some k =>
      refine .inr ⟨k,rfl,?_⟩
      rcases ho.2 with ⟨hv,h0⟩ | ⟨g,cap,cur,hv,hB,_,hnc,_⟩
      · omega
      · simp only [Value.slice.injEq] at hv
        rw [blk_eq (g:=g) (o:=0) hv.1 (by show 0 < c;omega)] at hk
        cases hk
        exact hB
  obtain ⟨q,cu,rfl,hc1,hnone,hlen,hcell⟩:=hu
  obtain ⟨ub,uo,rfl,hub,hucell⟩:=hcell (by decide)
  have hnews:∀ j v,x.arr.toList[j]? = some v→w.cell? ((⟨ub,uo,none⟩:Addr).add j) = some v:=fun j v hj=>by
    rw [Addr.add_lit]
    exact hucell j v hj
  have h63:s.n + 1≤maxLen:=by unfold maxLen;omega
  by_cases hc0:s.c = 0
  · have hn0:s.n = 0:=by have:=h.c;omega
    have hes:es = []:=List.eq_nil_of_length_eq_zero (by omega)
    cases hp:s.p with
    | none =>
      obtain ⟨v',w',hr,ho,hg,_⟩:=run_row elemE11 w ty w.heap.size (.slice none 0 0) (.slice (some ⟨ub,uo,none⟩) 1 cu) 0 1 [] x.arr.toList ⟨_,_,rfl,hc1,hnone,hlen,fun _=>⟨ub,uo,rfl,hub,hucell⟩⟩ (earr_cell x) (World.ownsRow_nil _ _ _ _) (by decide) (by decide) (Nat.le_refl _)
      obtain ⟨s',rfl,h1,h2,h3⟩:=fresh v' w' (by rw [hn0,hes];exact ho) hg
      exact ⟨s',w',by rw [hn0,hc0];exact hr,h1,h2,h3⟩
    | some a =>
      obtain ⟨v',w',hr,ho,hg⟩:=run_append_arg_grows (P:=Tryz.prog) w _ ty _ i z 13 168 elemE11.sl hi hz hsize hbytes hzs (by decide) a 0 0 [] rfl (fun j u hj=>by simp at hj) ⟨ub,uo,none⟩ 1 cu x.arr.toList rfl hnews (by decide) (by decide) (by decide)
      obtain ⟨s',rfl,h1,h2,h3⟩:=fresh v' w' (by rw [hn0,hes];exact ho) hg
      exact ⟨s',w',by rw [hn0,hc0];exact hr,h1,h2,h3⟩
  · obtain ⟨g,o,a,hp,hGg,hg,hfit,hat⟩:=h.at' (by omega)
    by_cases hroom:s.n + 1≤s.c
    · have hr13:o + s.n * 13 + 13≤a.size:=by
        have:(s.n + 1) * 13≤s.c * 13:=Nat.mul_le_mul_right _ hroom
        omega
      have hi13:i.size = 13:=hsize
      have hrun:=run_append_room_cells (P:=Tryz.prog) w 66 ty 28 i elemE11.sl hi g o s.n s.c ⟨ub,uo,none⟩ 1 cu x.arr.toList (by rw [hi13];rfl) hnews (earr_cell x) hroom
        (fun j hj=>by rw [hi13,box_cell hg,Array.getElem?_eq_getElem (by rw [arr_len] at hj;omega)];rfl) (fun j _=>frozen9 hg _)
      rw [hi13] at hrun
      obtain ⟨c',hb',hc'⟩:=setCells_at x.arr.toList (o + s.n * 13) w a hg (by rw [arr_len];omega)
      have hgr:=setCells_grown g x.arr.toList (o + s.n * 13) w
      have hblk:s.blk = some g:=blk_eq hp (by omega)
      have hst:Stay G 3 w (w.setCells g (o + s.n * 13) x.arr.toList):=h.lists (by rw [hblk];exact hgr)
      have hfl:o + s.n * 13 + x.arr.toList.length≤a.toList.length:=by rw [arr_len,Array.length_toList];exact hr13
      have hcs:c'.size = a.size:=by rw [← Array.length_toList,hc',put_len hfl,Array.length_toList]
      refine ⟨⟨s.p,s.n + 1,s.c⟩,_,by rw [hp];exact hrun,⟨by rw [List.length_append,hn];rfl,hroom,h.nl,fun _=>⟨g,o,c',hp,.inl hGg,hb',by show o + s.c * 13≤c'.size;omega,fun k hk j hj=>?_⟩,fun e he=>?_⟩,by rw [hblk];exact hgr,.inl rfl⟩
      · rw [← Array.getElem?_toList,hc']
        have hk':k < s.n + 1:=hk
        rcases Nat.lt_or_ge k s.n with hk2 | hk2
        · have hlt:o + k * 13 + j < o + s.n * 13:=by omega
          rw [put_old hfl hlt,Array.getElem?_toList,hat k hk2 j hj]
          rw [List.getD_eq_getElem?_getD,List.getD_eq_getElem?_getD,List.getElem?_append_left (by omega)]
        · obtain rfl:k = s.n:=by omega
          rw [put_new hfl (by rw [arr_len];exact hj),List.getD_eq_getElem?_getD,List.getElem?_append_right (by omega),hn,Nat.sub_self,Array.getElem?_toList]
          rfl
      · rcases List.mem_append.1 he with he | he
        · exact ((h.all e he).stay hst).mono more_in
        · rw [List.mem_singleton.1 he]
          exact (hx.stay hst).mono more_in
    · obtain ⟨v',w',hr,ho,hg'⟩:=run_append_arg_grows (P:=Tryz.prog) w _ ty _ i z 13 168 elemE11.sl hi hz hsize hbytes hzs (by decide) ⟨g,o,none⟩ s.n s.c (entsV es) (by rw [entsV_len,hn]) (fun j u hj=>by
          have hjl:j < (entsV es).length:=(List.getElem?_eq_some_iff.1 hj).1
          rw [entsV_len] at hjl
          rw [Addr.add_lit,box_cell hg]
          have e:j = j / 13 * 13 + j % 13:=by omega
          have h2:=hat (j / 13) (by omega) (j % 13) (by omega)
          rw [← entsV_at (by omega) (by omega),← e] at h2
          rw [show o + j = o + j / 13 * 13 + j % 13 by omega,h2,hj]) ⟨ub,uo,none⟩ 1 cu x.arr.toList rfl hnews (by omega) h63 (by omega)
      obtain ⟨s',rfl,h1,h2,h3⟩:=fresh v' w' ho hg'
      exact ⟨s',w',by rw [hp];exact hr,h1,h2,h3⟩
theorem step_rowG {ops:Array Oper} {o:Oper} {a:Act} {K:Act→World→Prop} {Q:Exit→Act→World→Prop} {E:Prop} (W:World) (hgd:o.guard = none) (s y:Operand)
    (ho:o.op = .call { callee:=.builtin .append,args:=#[s,y],argTypes:=#[66,66] })
    (G:Nat→Prop) (sl:Sl10) (es:List EntV) (x:EntV) (u:Value) (hs:a.eval s = .slice sl.p sl.n sl.c) (hu:a.eval y = u) (h:RowG W G sl es) (hx:EntG W G x) (hz:HasR W 13 u 1 x.arr.toList) (hl:es.length≤1000000000)
    (hK:∀ s' w',RowG w' (more8 G W w') s' (es++[x])→W.grownBy w' sl.blk→(s'.blk = sl.blk∨∃ k,s'.blk = some k∧W.heap.size≤k)→K (a.put o.dst (.slice (Sl10.p s') (Sl10.n s') (Sl10.c s'))) w') :
    if Region.wanted o (yielded ops a.tmps) = true then Oper.wp Tryz.prog o a W K Q else E:=by
  have hw:Region.wanted o (yielded ops a.tmps) = true:=by simp [Region.wanted,hgd]
  rw [if_pos hw]
  obtain ⟨s',w',hr,h1,h2,h3⟩:=run_rowG W o.type G sl es x u h hx hz hl
  unfold Oper.wp execOp
  simp only [ho,resolve,invoke,builtin,Sem.run_bind,Sem.run_pure,Result.andThen_ok,List.map_toArray,List.map_cons,List.map_nil,hs,hu,hr]
  exact hK s' w' h1 h2 h3
theorem zeroE11 (w:World):(zeroValue 28).run Tryz.prog w = .ok (.agg noEV.arr) w:=by kernel_rfl
theorem clearE11 {w:World} {G:Nat→Prop} {s:Sl10} {es:List EntV} (h:RowG w G s es) {g o k:Nat} (hp:s.p = some ⟨g,o,none⟩) (hk:k < s.n) (ty:TypeId) :
    ∃ w',(Builtin.clear_ #[66] ty #[.slice (some ⟨g,o + k * 13,none⟩) (s.n - k) (s.c - k)]).run Tryz.prog w = .ok (.tuple #[]) w'∧RowG w' G ⟨s.p,k,s.c⟩ (es.take k)∧w.grownBy w' s.blk:=by
  have hn:=h.n
  have hc:=h.c
  obtain ⟨g',o',a,hp',hGg,hg,hfit,hat⟩:=h.at' (by omega)
  rw [hp] at hp'
  cases hp'
  obtain ⟨m,hm⟩:∃ m,s.n - k = m + 1:=⟨s.n - k - 1,by omega⟩
  have hzl:(Builtin.zeroCells noEV.arr (s.n - k)).toList.length = (s.n - k) * 13:=by rw [Array.length_toList,size_zeroCells];rfl
  have hr13:o + k * 13 + (s.n - k) * 13≤a.size:=by omega
  have hst:=run_storeCells_cells (P:=Tryz.prog) g (o + k * 13) (Builtin.zeroCells noEV.arr (s.n - k)).toList 0 w (fun j hj=>by
      rw [Nat.add_zero,box_cell hg,Array.getElem?_eq_getElem (by rw [hzl] at hj;omega)]
      rfl) (fun j _=>frozen9 hg _) (by
    intro v hv
    obtain ⟨i,hi,rfl⟩:=List.mem_iff_getElem.1 hv
    simp only [Builtin.zeroCells]
    have hmm:i % 13 < 13:=Nat.mod_lt _ (by decide)
    have hall:∀ r,r < 13→(noEV.arr[r]!.oneCell' = true):=by
      intro r hr
      rcases r with _ | _ | _ | _ | _ | _ | _ | _ | _ | _ | _ | _ | _ | r <;> first | rfl | omega
    have:=hall _ hmm
    simp only [Array.getElem_toList,Array.getElem_map,Array.getElem_range]
    exact this)
  simp only [Nat.add_zero] at hst
  obtain ⟨c',hb',hc'⟩:=setCells_at (Builtin.zeroCells noEV.arr (s.n - k)).toList (o + k * 13) w a hg (by rw [hzl];exact hr13)
  have hgr:=setCells_grown g (Builtin.zeroCells noEV.arr (s.n - k)).toList (o + k * 13) w
  have hblk:s.blk = some g:=blk_eq hp (by omega)
  have hss:Stay G 3 w (w.setCells g (o + k * 13) (Builtin.zeroCells noEV.arr (s.n - k)).toList):=h.lists (by rw [hblk];exact hgr)
  have hfl:o + k * 13 + (Builtin.zeroCells noEV.arr (s.n - k)).toList.length≤a.toList.length:=by rw [hzl,Array.length_toList];exact hr13
  have hcs:c'.size = a.size:=by rw [← Array.length_toList,hc',put_len hfl,Array.length_toList]
  refine ⟨_,?_,⟨by rw [List.length_take];show min k es.length = k;omega,by show k≤s.c;omega,h.nl,fun _=>⟨g,o,c',hp,hGg,hb',by show o + s.c * 13≤c'.size;omega,fun i hi j hj=>?_⟩,fun e he=>(h.all e (List.mem_of_mem_take he)).stay hss⟩,by rw [hblk];exact hgr⟩
  · have hz:=zeroE11
    rw [hm] at hst ⊢
    simp [Builtin.clear_,run_underlying Tryz.underlying66,Value.cells,hz,hst]
  · have hi':i < k:=hi
    rw [← Array.getElem?_toList,hc',put_old hfl (by omega),Array.getElem?_toList,hat i (by omega) j hj]
    rw [List.getD_eq_getElem?_getD,List.getD_eq_getElem?_getD,List.getElem?_take_of_lt hi']
theorem elemI11:Elem8 Tryz.prog 24 3 1 8:=elem8 Tryz.underlying24 (z:=.int .i64 0) (by kernel_rfl) rfl (by decide)
theorem sliceI_nil (a:Addr) (n c:Nat) (W:World):(binOp .eql 24 (.slice (some a) n c) (.slice none 0 0)).run Tryz.prog W = .ok (.bool false) W:=by
  simp [binOp,go_sem]
  show ((Op.equalIn (9999 + 1) 24 (.slice (some a) n c) (.slice none 0 0)).run Tryz.prog W).andThen _ = _
  rw [equal_slice8 9999 _ _ a n c W Tryz.underlying24]
  rfl
theorem sliceI_nil2 (W:World):(binOp .eql 24 (.slice none 0 0) (.slice none 0 0)).run Tryz.prog W = .ok (.bool true) W:=by
  simp [binOp,go_sem]
  show ((Op.equalIn (9999 + 1) 24 (.slice none 0 0) (.slice none 0 0)).run Tryz.prog W).andThen _ = _
  rw [equal_slice9 9999 _ _ W Tryz.underlying24]
  rfl
theorem hasR_of_hasI {w:World} {v:Value} {xs:List Int} (h:HasI w v xs):HasR w 1 v xs.length (xs.map (Value.int .i64)):=by
  obtain ⟨p,c,rfl,h1,h2,h3⟩:=h
  refine ⟨p,c,rfl,h1,h2,by simp,fun h0=>?_⟩
  obtain ⟨b,o,rfl,hb,hc⟩:=h3 h0
  refine ⟨b,o,rfl,hb,fun j u hj=>?_⟩
  have hjl:j < xs.length:=by
    have:=(List.getElem?_eq_some_iff.1 hj).1
    simpa using this
  rw [hc j hjl]
  simp [List.getElem?_eq_getElem hjl] at hj
  subst hj
  simp [List.getElem?_eq_getElem hjl]
theorem ints_one (xs:List Int):∀ u ∈ xs.map (Value.int .i64),u.oneCell' = true:=by
  intro u hu
  obtain ⟨x,_,rfl⟩:=List.mem_map.1 hu
  rfl
theorem OwnsI.none (w:World) (B:Nat):OwnsI w B (.slice Option.none 0 0) []:=World.ownsRow_nil w B _ 1
set_option maxRecDepth 10000 in
theorem clone11 {v:Value} {xs:List Int} (w:World) (h:HasI w v xs) (hl:xs.length≤1000000) :
    Calls Tryz.prog 160 #[v] w fun e w'=>(∃ p c,e = .returned (.slice p xs.length c)∧OwnsI w' w.heap.size (.slice p xs.length c) xs)∧Below w.heap.size w w':=by
  have hR:=hasR_of_hasI h
  obtain ⟨p,c,rfl,h1,h2,h3⟩:=h
  obtain ⟨n,Hn⟩:∃ n,Hid (xs.length = n):=⟨_,rfl⟩
  rw [Hn.out] at hR h1 h3 hl ⊢
  cases p with
  | none =>
    obtain rfl:=h2 rfl
    obtain rfl:n = 0:=by omega
    obtain rfl:xs = []:=List.eq_nil_of_length_eq_zero Hn.out
    have hnil:=sliceI_nil2
    go_enter Tryz.func160,Tryz.ntmps160
    go_wp2
    go_ret
    exact ⟨⟨_,_,rfl,OwnsI.none _ _⟩,Below.refl _ _⟩
  | some a =>
    have hnil:=sliceI_nil a n c
    have he:(w.alloc (.cells #[] 3)).ownsRow w.heap.size 3 1 (.slice (some ⟨w.heap.size,0,none⟩) 0 0) 0 []:=row_none9 w w _ _ (Nat.le_refl _)
    have hba:Below w.heap.size w (w.alloc (.cells #[] 3)):=(Below.refl _ _).alloc (Nat.le_refl _) _
    have hR':HasR (w.alloc (.cells #[] 3)) 1 (.slice (some a) n c) n (xs.map (Value.int .i64)):=by
      obtain ⟨p,c',e,q1,q2,q3,q4⟩:=hR
      refine ⟨p,c',e,q1,q2,q3,fun h0=>?_⟩
      obtain ⟨b,o,e,hb,hc⟩:=q4 h0
      exact ⟨b,o,e,Nat.lt_of_lt_of_le hb hba.size,fun j u hj=>(hba.cell (p:=⟨b,o + j,none⟩) hb).trans (hc j u hj)⟩
    have hsz:w.heap.size≤(w.alloc (.cells #[] 3)).heap.size:=hba.size
    have h0n:0 + n≤1099511627776:=by omega
    have h0m:(0 + n) * 8≤140737488355328:=by omega
    go_enter Tryz.func160,Tryz.ntmps160
    go_wp2_with (at_builtin;refine ap_row elemI11 _ rfl _ _ rfl w.heap.size _ _ 0 n [] (xs.map (Value.int .i64)) rfl rfl hR' (ints_one _) he h0n h0m hsz ?_;intro v' w' hown' hgrow hwh;refine Halt8.out ?_)
    rw [Nat.zero_add,List.nil_append] at hown'
    have hb:Below w.heap.size w w':=hba.trans ((Below.refl _ _).grown hgrow hsz fun k hk=>(World.ownsRow.lt he k hk).1)
    obtain ⟨p',n',c',rfl⟩:=row_shape11 hown'
    have hn':n' = n:=by
      rcases hown'.2 with ⟨hv,h0⟩ | ⟨g,cap,cur,hv,_⟩
      · simp only [Value.slice.injEq] at hv;omega
      · simp only [Value.slice.injEq] at hv;omega
    subst hn'
    have ho:OwnsI w' w.heap.size (.slice p' n' c') xs:=by unfold OwnsI;rw [Hn.out];exact hown'
    clear hgrow hwh hown' hR hR' he
    constructor
    go_wp2
    go_ret
    exact ⟨⟨_,_,rfl,ho⟩,hb⟩
theorem stE_arr {w:World} {b:Nat} (o:Nat) (x:EntV) (h:w.there b o 13):(stE (.pointer (some ⟨b,o,none⟩)) (.agg x.arr)).run Tryz.prog w = .ok () (w.setCells b o x.arr.toList):=by
  refine run_storeAt_mid w b o 28 x.arr h (by show _ = some 13;kernel_rfl) ?_
  have:=all_oneCell_toArray (cs:=x.arr.toList) (earr_cell x)
  rwa [Array.toArray_toList] at this
theorem HasE.ld {W:World} {s:Sl10} {es:List EntV} (h:HasE W s es) {j:Nat} (hj:j < s.n):∃ b o,s.p = some ⟨b,o,none⟩∧b < W.heap.size∧(ldE (.pointer (some ⟨b,o + j * 13,none⟩))).run Tryz.prog W = .ok (.agg (es.getD j noEV).arr) W:=by
  obtain ⟨b,o,hp,hlt,hc⟩:=h.at' (by omega)
  refine ⟨b,o,hp,hlt,?_⟩
  refine (run_loadAt_mid W b (o + j * 13) 28 (es.getD j noEV).arr.toList _ (fun i v hi=>?_) Tryz.underlying28 rfl (by rw [arr_len];kernel_rfl)).trans (by rw [Array.toArray_toList])
  have hi13:i < 13:=by
    have:=(List.getElem?_eq_some_iff.1 hi).1
    rwa [arr_len] at this
  rw [hc j hj i hi13,← Array.getElem?_toList]
  exact hi
theorem setE_box {w:World} {b:Nat} {t:TypeId} {a:Array Value} (x:EntV) (h:w.heap[b]? = some (.cells a t (0,0))) (hs:a.size = 13):(w.setCells b 0 x.arr.toList).heap[b]? = some (.cells x.arr t (0,0)) :=
  setCells_box h 0 _ _ (by rw [arr_len];omega) (by rw [arr_len];simp [List.drop_of_length_le,hs])
set_option maxRecDepth 100000 in
set_option maxHeartbeats 1000000 in
theorem copyE_any (w:World) (x:EntV) (hF:FitsE w x) (hf:FewF x.f.f):Calls Tryz.prog 90 #[.agg x.arr] w fun e w'=>∃ y:EntV,e = .returned (.agg y.arr)∧y.e = x.e∧OwnsE w' w.heap.size y∧Below w.heap.size w w':=by
  have hB1:Below w.heap.size w ((w.alloc (.cells x.arr 28)).alloc (.cells #[.int .i64 0,.int .i64 0,.int .i64 0,.int .i64 0,.int .i64 0,.int .i64 0,.string ⟨#[]⟩,.string ⟨#[]⟩,.string ⟨#[]⟩,.string ⟨#[]⟩,.int .i64 0,.slice none 0 0,.slice none 0 0] 28)):=((Below.refl _ w).alloc (Nat.le_refl _) _).alloc (by simp) _
  have hz1:((w.alloc (.cells x.arr 28)).alloc (.cells #[.int .i64 0,.int .i64 0,.int .i64 0,.int .i64 0,.int .i64 0,.int .i64 0,.string ⟨#[]⟩,.string ⟨#[]⟩,.string ⟨#[]⟩,.string ⟨#[]⟩,.int .i64 0,.slice none 0 0,.slice none 0 0] 28)).heap.size = w.heap.size + 2:=by simp
  have hbx:((w.alloc (.cells x.arr 28)).alloc (.cells #[.int .i64 0,.int .i64 0,.int .i64 0,.int .i64 0,.int .i64 0,.int .i64 0,.string ⟨#[]⟩,.string ⟨#[]⟩,.string ⟨#[]⟩,.string ⟨#[]⟩,.int .i64 0,.slice none 0 0,.slice none 0 0] 28)).heap[w.heap.size]? = some (.cells x.arr 28 (0,0)):=box_below (heap_alloc_new w _) ((Below.refl _ _).alloc (Nat.le_refl _) _)
  have hby:((w.alloc (.cells x.arr 28)).alloc (.cells #[.int .i64 0,.int .i64 0,.int .i64 0,.int .i64 0,.int .i64 0,.int .i64 0,.string ⟨#[]⟩,.string ⟨#[]⟩,.string ⟨#[]⟩,.string ⟨#[]⟩,.int .i64 0,.slice none 0 0,.slice none 0 0] 28)).heap[w.heap.size + 1]? = some (.cells #[.int .i64 0,.int .i64 0,.int .i64 0,.int .i64 0,.int .i64 0,.int .i64 0,.string ⟨#[]⟩,.string ⟨#[]⟩,.string ⟨#[]⟩,.string ⟨#[]⟩,.int .i64 0,.slice none 0 0,.slice none 0 0] 28 (0,0)):=by
    have:=heap_alloc_new (w.alloc (.cells x.arr 28)) (.cells #[.int .i64 0,.int .i64 0,.int .i64 0,.int .i64 0,.int .i64 0,.int .i64 0,.string ⟨#[]⟩,.string ⟨#[]⟩,.string ⟨#[]⟩,.string ⟨#[]⟩,.int .i64 0,.slice none 0 0,.slice none 0 0] 28)
    rwa [World.size_alloc] at this
  have y11:((w.alloc (.cells x.arr 28)).alloc (.cells #[.int .i64 0,.int .i64 0,.int .i64 0,.int .i64 0,.int .i64 0,.int .i64 0,.string ⟨#[]⟩,.string ⟨#[]⟩,.string ⟨#[]⟩,.string ⟨#[]⟩,.int .i64 0,.slice none 0 0,.slice none 0 0] 28)).cell? ⟨w.heap.size,11,none⟩ = some (.slice x.f.u.p x.f.u.n x.f.u.c):=box_cell hbx 11
  have hu:=hF.f.u.below hB1 (Nat.le_refl _)
  have k1:=clone11 _ hu (by have:=hf.1;omega)
  have HI:Hid (inI x.i∧inI x.t∧inI x.k∧Fits9 x.c∧inL x.f.f.vs∧inL x.f.f.ls∧x.f.f.vs.length≤1000∧x.f.f.ls.length≤1000):=⟨hF.i,hF.t,hF.k,hF.c,hF.f.iu,hF.f.iv,hf.1,hf.2⟩
  have HV:Hid (HasI w (.slice x.f.v.p x.f.v.n x.f.v.c) x.f.f.ls):=hF.f.v
  have HB:Hid _:=hB1
  clear hu hF hf hB1
  go_enter Tryz.func90,Tryz.ntmps90
  go_wp2_with fail
  refine k1.mono ?_
  rintro _ w2 ⟨⟨p1,c1,rfl,ho1⟩,hb2⟩
  have hbx2:=box_below hbx hb2
  have hby2:=box_below hby hb2
  have HB2:Hid (Below w.heap.size w w2):=HB.out.trans (hb2.mono HB.out.size)
  rw [hz1] at ho1
  have hlt2:w.heap.size + 2≤w2.heap.size:=by have:=hb2.size;omega
  have HO1:Hid (OwnsI w2 (w.heap.size + 2) (.slice p1 x.f.f.vs.length c1) x.f.f.vs):=ho1
  clear k1 y11 hbx hby HB hb2 hz1 ho1
  generalize (w.alloc (.cells x.arr 28)).alloc (.cells #[.int .i64 0,.int .i64 0,.int .i64 0,.int .i64 0,.int .i64 0,.int .i64 0,.string ⟨#[]⟩,.string ⟨#[]⟩,.string ⟨#[]⟩,.string ⟨#[]⟩,.int .i64 0,.slice none 0 0,.slice none 0 0] 28) = W1 at *
  have y11:w2.cell? ⟨w.heap.size,11,none⟩ = some (.slice x.f.u.p x.f.u.n x.f.u.c):=box_cell hbx2 11
  have f11:=frozen9 hbx2 11
  have hbx3:(w2.setCell ⟨w.heap.size,11,none⟩ (.slice p1 x.f.f.vs.length c1)).heap[w.heap.size]? = some (.cells (EntV.arr ⟨x.i,x.t,x.k,x.c,⟨⟨p1,x.f.f.vs.length,c1⟩,x.f.v,x.f.f⟩⟩) 28 (0,0)):=set_block9 hbx2 11 _ (by show 11 < 13;decide)
  have hby3:(w2.setCell ⟨w.heap.size,11,none⟩ (.slice p1 x.f.f.vs.length c1)).heap[w.heap.size + 1]? = some (.cells #[.int .i64 0,.int .i64 0,.int .i64 0,.int .i64 0,.int .i64 0,.int .i64 0,.string ⟨#[]⟩,.string ⟨#[]⟩,.string ⟨#[]⟩,.string ⟨#[]⟩,.int .i64 0,.slice none 0 0,.slice none 0 0] 28 (0,0)):=(Below.heap_setCell _ _ _ _ (by show w.heap.size + 1 ≠ w.heap.size;omega)).trans hby2
  have hg3:=grown_set w2 w.heap.size 11 (.slice p1 x.f.f.vs.length c1)
  have hlt3:=hg3.size
  have HB3:Hid (Below w.heap.size w (w2.setCell ⟨w.heap.size,11,none⟩ (.slice p1 x.f.f.vs.length c1))):=HB2.out.setCell (Nat.le_refl _) _
  have HO3:Hid (OwnsI (w2.setCell ⟨w.heap.size,11,none⟩ (.slice p1 x.f.f.vs.length c1)) (w.heap.size + 2) (.slice p1 x.f.f.vs.length c1) x.f.f.vs):=row_left11 HO1.out hg3 (by omega)
  have y12:(w2.setCell ⟨w.heap.size,11,none⟩ (.slice p1 x.f.f.vs.length c1)).cell? ⟨w.heap.size,12,none⟩ = some (.slice x.f.v.p x.f.v.n x.f.v.c):=box_cell hbx3 12
  have k3:=clone11 _ (HV.out.below HB3.out (Nat.le_refl _)) (by have:=HI.out.2.2.2.2.2.2.2;omega)
  go_wp2_with fail
  clear y11 f11
  generalize w2.setCell ⟨w.heap.size,11,none⟩ (.slice p1 x.f.f.vs.length c1) = W3 at *
  refine k3.mono ?_
  rintro _ w4 ⟨⟨p2,c2,rfl,ho2⟩,hb4⟩
  have hbx4:=box_below hbx3 hb4
  have hby4:=box_below hby3 hb4
  have hB4:Below w.heap.size w w4:=HB3.out.trans (hb4.mono HB3.out.size)
  have hO4:OwnsI w4 (w.heap.size + 2) (.slice p1 x.f.f.vs.length c1) x.f.f.vs:=row_below HO3.out hb4 (Nat.le_refl _)
  have hO5:OwnsI w4 (w.heap.size + 2) (.slice p2 x.f.f.ls.length c2) x.f.f.ls:=row_mono ho2 (by omega)
  have hlt4:=hb4.size
  clear k3 y12 hbx3 hby3 hb4 ho2
  have y12:w4.cell? ⟨w.heap.size,12,none⟩ = some (.slice x.f.v.p x.f.v.n x.f.v.c):=box_cell hbx4 12
  have f12:=frozen9 hbx4 12
  have hbx5:(w4.setCell ⟨w.heap.size,12,none⟩ (.slice p2 x.f.f.ls.length c2)).heap[w.heap.size]? = some (.cells (EntV.arr ⟨x.i,x.t,x.k,x.c,⟨⟨p1,x.f.f.vs.length,c1⟩,⟨p2,x.f.f.ls.length,c2⟩,x.f.f⟩⟩) 28 (0,0)):=set_block9 hbx4 12 _ (by show 12 < 13;decide)
  have hby5:(w4.setCell ⟨w.heap.size,12,none⟩ (.slice p2 x.f.f.ls.length c2)).heap[w.heap.size + 1]? = some (.cells #[.int .i64 0,.int .i64 0,.int .i64 0,.int .i64 0,.int .i64 0,.int .i64 0,.string ⟨#[]⟩,.string ⟨#[]⟩,.string ⟨#[]⟩,.string ⟨#[]⟩,.int .i64 0,.slice none 0 0,.slice none 0 0] 28 (0,0)):=(Below.heap_setCell _ _ _ _ (by show w.heap.size + 1 ≠ w.heap.size;omega)).trans hby4
  have hg5:=grown_set w4 w.heap.size 12 (.slice p2 x.f.f.ls.length c2)
  have hB5:Below w.heap.size w (w4.setCell ⟨w.heap.size,12,none⟩ (.slice p2 x.f.f.ls.length c2)):=hB4.setCell (Nat.le_refl _) _
  have hP5:=row_left11 hO4 hg5 (by omega)
  have hQ5:=row_left11 hO5 hg5 (by omega)
  have hlt5:=hg5.size
  have hld5:=ldE_box _ _ _ _ _ hbx5 rfl
  have hth5:=there_box hby5 0 13 (Nat.le_refl _)
  have hst5:=stE_arr 0 ⟨x.i,x.t,x.k,x.c,⟨⟨p1,x.f.f.vs.length,c1⟩,⟨p2,x.f.f.ls.length,c2⟩,x.f.f⟩⟩ hth5
  have hres:=setE_box ⟨x.i,x.t,x.k,x.c,⟨⟨p1,x.f.f.vs.length,c1⟩,⟨p2,x.f.f.ls.length,c2⟩,x.f.f⟩⟩ hby5 rfl
  have hB6:Below w.heap.size w ((w4.setCell ⟨w.heap.size,12,none⟩ (.slice p2 x.f.f.ls.length c2)).setCells (w.heap.size + 1) 0 (EntV.arr ⟨x.i,x.t,x.k,x.c,⟨⟨p1,x.f.f.vs.length,c1⟩,⟨p2,x.f.f.ls.length,c2⟩,x.f.f⟩⟩).toList):=setCells_below (by omega) _ _ hB5
  have hg6:=setCells_grown (w.heap.size + 1) (EntV.arr ⟨x.i,x.t,x.k,x.c,⟨⟨p1,x.f.f.vs.length,c1⟩,⟨p2,x.f.f.ls.length,c2⟩,x.f.f⟩⟩).toList 0 (w4.setCell ⟨w.heap.size,12,none⟩ (.slice p2 x.f.f.ls.length c2))
  have hP6:=row_left11 hP5 hg6 (by omega)
  have hQ6:=row_left11 hQ5 hg6 (by omega)
  obtain ⟨j1,j2,j3,j4,j5,j6,j7,j8⟩:=HI.out
  have hOE:OwnsE _ w.heap.size ⟨x.i,x.t,x.k,x.c,⟨⟨p1,x.f.f.vs.length,c1⟩,⟨p2,x.f.f.ls.length,c2⟩,x.f.f⟩⟩:=⟨j1,j2,j3,j4,⟨row_mono hP6 (by omega),row_mono hQ6 (by omega),j5,j6,by show x.f.f.vs.length≤1000000;omega,by show x.f.f.ls.length≤1000000;omega⟩⟩
  have HOE:Hid _:=hOE
  have HB6:Hid _:=hB6
  have HRes:Hid _:=hres
  clear hbx4 hby4 hB4 hO4 hO5 hbx5 hby5 hg5 hB5 hP5 hQ5 hg6 hP6 hQ6 hOE hB6 hres j1 j2 j3 j4 j5 j6 j7 j8 HI HV
  go_wp2
  refine bodyPost_ret (ret_one rfl _ _ (w.heap.size + 1) _ _ _ _ rfl HRes.out Tryz.underlying28 rfl (by kernel_rfl)) rfl ⟨_,rfl,rfl,HOE.out,HB6.out⟩
def bsE (x:Value):Sem Value:=Instr.buildSlice 66 1 #[(0,x)]
theorem bsE_exec (ρ:Operand→Value) (d:Option Tmp) (x:Operand) (t:TypeId) (p:String) (af:Array Edge) (g:Option (Nat × Bool)) (w:World):(execOp ρ { dst:=d,op:=.buildSlice 66 1 #[(0,x)],type:=t,pos:=p,after:=af,guard:=g }).run Tryz.prog w = ((bsE (ρ x)).run Tryz.prog w).andThen fun v w'=>.ok (.value v) w':=by
  unfold execOp bsE
  simp only [Sem.run_bind,Sem.run_pure,List.map_toArray,List.map_cons,List.map_nil]
theorem bsE_execI (ro:Option Nat) (ρ:Operand→Value) (d:Option Tmp) (x:Operand) (t:TypeId) (p:String) (af:Array Edge) (g:Option (Nat × Bool)) (w:World):(Oper.semAt ro ρ { dst:=d,op:=.buildSlice 66 1 #[(0,x)],type:=t,pos:=p,after:=af,guard:=g }).run Tryz.prog w = ((bsE (ρ x)).run Tryz.prog w).andThen fun v w'=>.ok (.value v) w':=by
  rw [Oper.semAt_eq _ _ _ (by intro c h;cases h)]
  exact bsE_exec ρ d x t p af g w
set_option maxRecDepth 100000 in
theorem bsE_run (w:World) (y:EntV):(bsE (.agg y.arr)).run Tryz.prog w = .ok (.slice (some ⟨w.heap.size,0,none⟩) 1 1) (w.alloc (.cells y.arr 28)):=by
  obtain ⟨xi,xt,xk,⟨ck,cs,cq,ckey,cold,cval,cunt,clim⟩,⟨⟨p1,n1,c1⟩,⟨q1,m1,d1⟩,f1⟩⟩:=y
  unfold bsE EntV.arr
  go_simp
def bsW (x:Value):Sem Value:=Instr.buildSlice 38 1 #[(0,x)]
theorem bsW_exec (ρ:Operand→Value) (d:Option Tmp) (x:Operand) (t:TypeId) (p:String) (af:Array Edge) (g:Option (Nat × Bool)) (w:World):(execOp ρ { dst:=d,op:=.buildSlice 38 1 #[(0,x)],type:=t,pos:=p,after:=af,guard:=g }).run Tryz.prog w = ((bsW (ρ x)).run Tryz.prog w).andThen fun v w'=>.ok (.value v) w':=by
  unfold execOp bsW
  simp only [Sem.run_bind,Sem.run_pure,List.map_toArray,List.map_cons,List.map_nil]
theorem bsW_execI (ro:Option Nat) (ρ:Operand→Value) (d:Option Tmp) (x:Operand) (t:TypeId) (p:String) (af:Array Edge) (g:Option (Nat × Bool)) (w:World):(Oper.semAt ro ρ { dst:=d,op:=.buildSlice 38 1 #[(0,x)],type:=t,pos:=p,after:=af,guard:=g }).run Tryz.prog w = ((bsW (ρ x)).run Tryz.prog w).andThen fun v w'=>.ok (.value v) w':=by
  rw [Oper.semAt_eq _ _ _ (by intro c h;cases h)]
  exact bsW_exec ρ d x t p af g w
set_option maxRecDepth 100000 in
theorem bsW_run (w:World) (y:RecV):(bsW (.agg y.arr)).run Tryz.prog w = .ok (.slice (some ⟨w.heap.size,0,none⟩) 1 1) (w.alloc (.cells y.arr 32)):=by
  obtain ⟨k,⟨xi,xt,xk,⟨ck,cs,cq,ckey,cold,cval,cunt,clim⟩,⟨⟨p1,n1,c1⟩,⟨q1,m1,d1⟩,f1⟩⟩,⟨ht,hv,hc⟩,ri,rt⟩:=y
  unfold bsW RecV.arr
  go_simp
def bdE (x y:Value):Sem Value:=Instr.build 32 #[(0,x),(1,y)]
theorem bdE_exec (ρ:Operand→Value) (d:Option Tmp) (x y:Operand) (t:TypeId) (p:String) (af:Array Edge) (g:Option (Nat × Bool)) (w:World):(execOp ρ { dst:=d,op:=.build 32 #[(0,x),(1,y)],type:=t,pos:=p,after:=af,guard:=g }).run Tryz.prog w = ((bdE (ρ x) (ρ y)).run Tryz.prog w).andThen fun v w'=>.ok (.value v) w':=by
  unfold execOp bdE
  simp only [Sem.run_bind,Sem.run_pure,List.map_toArray,List.map_cons,List.map_nil]
theorem bdE_execI (ro:Option Nat) (ρ:Operand→Value) (d:Option Tmp) (x y:Operand) (t:TypeId) (p:String) (af:Array Edge) (g:Option (Nat × Bool)) (w:World):(Oper.semAt ro ρ { dst:=d,op:=.build 32 #[(0,x),(1,y)],type:=t,pos:=p,after:=af,guard:=g }).run Tryz.prog w = ((bdE (ρ x) (ρ y)).run Tryz.prog w).andThen fun v w'=>.ok (.value v) w':=by
  rw [Oper.semAt_eq _ _ _ (by intro c h;cases h)]
  exact bdE_exec ρ d x y t p af g w
set_option maxRecDepth 100000 in
theorem bdE_run (w:World) (k:Int) (y:EntV):(bdE (.int .i64 k) (.agg y.arr)).run Tryz.prog w = .ok (.agg (RecV.arr ⟨k,y,noH11,0,0⟩)) w:=by
  obtain ⟨xi,xt,xk,⟨ck,cs,cq,ckey,cold,cval,cunt,clim⟩,⟨⟨p1,n1,c1⟩,⟨q1,m1,d1⟩,f1⟩⟩:=y
  unfold bdE EntV.arr RecV.arr noH11
  go_simp
def bdH (x y:Value):Sem Value:=Instr.build 32 #[(0,x),(2,y)]
theorem bdH_exec (ρ:Operand→Value) (d:Option Tmp) (x y:Operand) (t:TypeId) (p:String) (af:Array Edge) (g:Option (Nat × Bool)) (w:World):(execOp ρ { dst:=d,op:=.build 32 #[(0,x),(2,y)],type:=t,pos:=p,after:=af,guard:=g }).run Tryz.prog w = ((bdH (ρ x) (ρ y)).run Tryz.prog w).andThen fun v w'=>.ok (.value v) w':=by
  unfold execOp bdH
  simp only [Sem.run_bind,Sem.run_pure,List.map_toArray,List.map_cons,List.map_nil]
theorem bdH_execI (ro:Option Nat) (ρ:Operand→Value) (d:Option Tmp) (x y:Operand) (t:TypeId) (p:String) (af:Array Edge) (g:Option (Nat × Bool)) (w:World):(Oper.semAt ro ρ { dst:=d,op:=.build 32 #[(0,x),(2,y)],type:=t,pos:=p,after:=af,guard:=g }).run Tryz.prog w = ((bdH (ρ x) (ρ y)).run Tryz.prog w).andThen fun v w'=>.ok (.value v) w':=by
  rw [Oper.semAt_eq _ _ _ (by intro c h;cases h)]
  exact bdH_exec ρ d x y t p af g w
set_option maxRecDepth 100000 in
theorem bdH_run (w:World) (k:Int) (y:Hard10):(bdH (.int .i64 k) (.agg y.arr)).run Tryz.prog w = .ok (.agg (RecV.arr ⟨k,noEV,y,0,0⟩)) w:=by
  obtain ⟨ht,hv,hc⟩:=y
  unfold bdH Hard10.arr RecV.arr noEV zeroC9 noFV nilS10
  go_simp
def bdB (x y z:Value):Sem Value:=Instr.build 32 #[(0,x),(3,y),(4,z)]
theorem bdB_exec (ρ:Operand→Value) (d:Option Tmp) (x y z:Operand) (t:TypeId) (p:String) (af:Array Edge) (g:Option (Nat × Bool)) (w:World):(execOp ρ { dst:=d,op:=.build 32 #[(0,x),(3,y),(4,z)],type:=t,pos:=p,after:=af,guard:=g }).run Tryz.prog w = ((bdB (ρ x) (ρ y) (ρ z)).run Tryz.prog w).andThen fun v w'=>.ok (.value v) w':=by
  unfold execOp bdB
  simp only [Sem.run_bind,Sem.run_pure,List.map_toArray,List.map_cons,List.map_nil]
theorem bdB_execI (ro:Option Nat) (ρ:Operand→Value) (d:Option Tmp) (x y z:Operand) (t:TypeId) (p:String) (af:Array Edge) (g:Option (Nat × Bool)) (w:World):(Oper.semAt ro ρ { dst:=d,op:=.build 32 #[(0,x),(3,y),(4,z)],type:=t,pos:=p,after:=af,guard:=g }).run Tryz.prog w = ((bdB (ρ x) (ρ y) (ρ z)).run Tryz.prog w).andThen fun v w'=>.ok (.value v) w':=by
  rw [Oper.semAt_eq _ _ _ (by intro c h;cases h)]
  exact bdB_exec ρ d x y z t p af g w
set_option maxRecDepth 100000 in
theorem bdB_run (w:World) (k i t:Int):(bdB (.int .i64 k) (.int .i64 i) (.int .i64 t)).run Tryz.prog w = .ok (.agg (RecV.arr ⟨k,noEV,noH11,i,t⟩)) w:=by
  unfold bdB RecV.arr noEV zeroC9 noFV nilS10 noH11
  go_simp
end Go.Proofs.YtkbbhllchombdaaGreatDoor

namespace Go.Proofs.YtkbbhllchombdaaGreatDoor
open Go.RowKit Go.Shelf
attribute [local go_sem ↓] ldE_exec stE_exec ldE_execI stE_execI ldE_run ldE_box stE_box ldC_exec stC_exec ldC_execI stC_execI ldC_run ldW_exec stW_exec ldW_execI stW_execI ldW_box stW_box ldR_exec stR_exec ldR_execI stR_execI ldR_box stR_box ldT_exec stT_exec ldT_execI stT_execI ldT_box ldU_exec stU_exec ldU_execI stU_execI ldH_exec stH_exec ldH_execI stH_execI ldH_run ldH_box stH_box oc_int oc_bool oc_string oc_slice oc_pointer
attribute [local go_sem ↓] bsE_exec bsE_execI bsE_run bsW_exec bsW_execI bsW_run bdE_exec bdE_execI bdE_run bdH_exec bdH_execI bdH_run bdB_exec bdB_execI bdB_run
theorem tarr_cell (x:StaV):∀ u ∈ x.arr.toList,u.oneCell' = true:=by
  intro u hu
  unfold StaV.arr at hu
  simp only [List.mem_cons,List.not_mem_nil,or_false] at hu
  rcases hu with rfl | rfl | rfl | rfl | rfl | rfl <;> rfl
theorem tarr_len (x:StaV):x.arr.toList.length = 6:=rfl
theorem stT_arr {w:World} {b:Nat} (o:Nat) (x:StaV) (h:w.there b o 6):(stT (.pointer (some ⟨b,o,none⟩)) (.agg x.arr)).run Tryz.prog w = .ok () (w.setCells b o x.arr.toList):=by
  refine run_storeAt_mid w b o 82 x.arr h (by show _ = some 6;kernel_rfl) ?_
  have:=all_oneCell_toArray (cs:=x.arr.toList) (tarr_cell x)
  rwa [Array.toArray_toList] at this
theorem setT_box {w:World} {b:Nat} {t:TypeId} {a:Array Value} (x:StaV) (h:w.heap[b]? = some (.cells a t (0,0))) (hs:a.size = 6):(w.setCells b 0 x.arr.toList).heap[b]? = some (.cells x.arr t (0,0)) :=
  setCells_box h 0 _ _ (by rw [tarr_len];omega) (by rw [tarr_len];simp [List.drop_of_length_le,hs])
theorem getD_memE {l:List EntV} {j:Nat} (h:j < l.length):l.getD j noEV ∈ l:=by
  rw [List.getD_eq_getElem?_getD,List.getElem?_eq_getElem h]
  exact List.getElem_mem h
theorem take_snocE {l:List EntV} {j:Nat} (h:j < l.length):l.take (j + 1) = l.take j++[l.getD j noEV]:=by
  rw [List.take_add_one,List.getElem?_eq_getElem h,List.getD_eq_getElem?_getD,List.getElem?_eq_getElem h]
  rfl
theorem OwnsEs.push {w w':World} {B:Nat} {s s':Sl10} {es:List EntV} {x:EntV} (h:OwnsEs w B s es) (hx:OwnsE w B x) (ho:w'.ownsRow B 28 13 (.slice s'.p s'.n s'.c) (es.length + 1) (entsV es++x.arr.toList)) (hg:w.grownBy w' (Value.slice s.p s.n s.c).ownBlock):OwnsEs w' B s' (es++[x]):=by
  refine ⟨by rw [entsV_append,entsV_one,List.length_append];exact ho,fun e he=>?_⟩
  rcases List.mem_append.1 he with he | he
  · exact (h.all e he).app h.row hg
  · rw [List.mem_singleton.1 he]
    exact hx.app h.row hg
set_option maxRecDepth 100000 in
set_option maxHeartbeats 1000000 in
theorem copyS_any (w:World) (x:StaV) (hE:HasE w x.w x.es) (hf:∀ e ∈ x.es,FewF e.f.f) (hl:x.es.length≤1000000000):Calls Tryz.prog 87 #[.agg x.arr] w fun e w'=>∃ y:StaV,e = .returned (.agg y.arr)∧y.s = x.s∧OwnsEs w' w.heap.size y.w y.es∧Below w.heap.size w w':=by
  have hB1:Below w.heap.size w ((w.alloc (.cells x.arr 82)).alloc (.cells #[.int .i64 0,.int .i64 0,.int .i64 0,.int .i64 0,.int .i64 0,.slice none 0 0] 82)):=((Below.refl _ w).alloc (Nat.le_refl _) _).alloc (by simp) _
  have hz1:((w.alloc (.cells x.arr 82)).alloc (.cells #[.int .i64 0,.int .i64 0,.int .i64 0,.int .i64 0,.int .i64 0,.slice none 0 0] 82)).heap.size = w.heap.size + 2:=by simp
  have hbx:((w.alloc (.cells x.arr 82)).alloc (.cells #[.int .i64 0,.int .i64 0,.int .i64 0,.int .i64 0,.int .i64 0,.slice none 0 0] 82)).heap[w.heap.size]? = some (.cells x.arr 82 (0,0)):=box_below (heap_alloc_new w _) ((Below.refl _ _).alloc (Nat.le_refl _) _)
  have hby:((w.alloc (.cells x.arr 82)).alloc (.cells #[.int .i64 0,.int .i64 0,.int .i64 0,.int .i64 0,.int .i64 0,.slice none 0 0] 82)).heap[w.heap.size + 1]? = some (.cells #[.int .i64 0,.int .i64 0,.int .i64 0,.int .i64 0,.int .i64 0,.slice none 0 0] 82 (0,0)):=by
    have:=heap_alloc_new (w.alloc (.cells x.arr 82)) (.cells #[.int .i64 0,.int .i64 0,.int .i64 0,.int .i64 0,.int .i64 0,.slice none 0 0] 82)
    rwa [World.size_alloc] at this
  have y5:((w.alloc (.cells x.arr 82)).alloc (.cells #[.int .i64 0,.int .i64 0,.int .i64 0,.int .i64 0,.int .i64 0,.slice none 0 0] 82)).cell? ⟨w.heap.size,5,none⟩ = some (.slice x.w.p x.w.n x.w.c):=box_cell hbx 5
  have hnn:Hid (x.es.length = x.w.n):=hE.n
  have hn:x.w.n≤1000000000:=by rw [← hnn.out];exact hl
  have hcc:=hE.c
  have HE:Hid (HasE w x.w x.es):=hE
  have HF:Hid (∀ e ∈ x.es,FewF e.f.f):=hf
  clear hE hf hl
  go_enter Tryz.func87,Tryz.ntmps87
  go_wp2
  generalize (w.alloc (.cells x.arr 82)).alloc (.cells #[.int .i64 0,.int .i64 0,.int .i64 0,.int .i64 0,.int .i64 0,.slice none 0 0] 82) = W1 at *
  clear y5
  go_loopw [3,9] (fun s3 s9 wr=>∃ (j:Nat) (s:Sl10) (ys:List EntV),s3 = .slice s.p s.n s.c∧s9 = .int .i64 (j:Nat)∧j≤x.w.n∧Hid (OwnsEs wr (w.heap.size + 2) s ys)∧Hid (ys.map EntV.e = (x.es.take j).map EntV.e)∧Hid (ys.length = j)∧Below W1.heap.size W1 wr) (fun _ s9 _=>x.w.n - (intOf s9).toNat)
  case atStart=>exact ⟨0,nilS10,[],rfl,rfl,Nat.zero_le _,OwnsEs.nil _ _,rfl,rfl,Below.refl _ _⟩
  case round =>
    obtain ⟨j,s,ys,rfl,rfl,hj,HO,HM,HL,hb⟩:=hrel
    have hsz:=hb.size
    by_cases hjn:j < x.w.n
    · have hEr:=HE.out.below (hB1.trans (hb.mono hB1.size))
      obtain ⟨g,o,hp,hg,hld⟩:=hEr.ld hjn
      have hej:x.es.getD j noEV ∈ x.es:=getD_memE (by rw [hnn.out];exact hjn)
      have hFe:=hEr.all _ hej
      have hfe:=HF.out _ hej
      have HM2:Hid ((x.es.take (j + 1)).map EntV.e = (x.es.take j).map EntV.e++[(x.es.getD j noEV).e]):=by
        rw [Hid,take_snocE (by rw [hnn.out];exact hjn),List.map_append]
        rfl
      clear hEr
      generalize x.es.getD j noEV = e at *
      rw [hp] at *
      have hbE:=heap_alloc_new wr (.cells #[.int .i64 0,.int .i64 0,.int .i64 0,.int .i64 0,.int .i64 0,.int .i64 0,.string ⟨#[]⟩,.string ⟨#[]⟩,.string ⟨#[]⟩,.string ⟨#[]⟩,.int .i64 0,.slice none 0 0,.slice none 0 0] 28)
      have hth:=there_box hbE 0 13 (Nat.le_refl _)
      have hst:=stE_arr 0 e hth
      have hbE2:=setE_box e hbE rfl
      have hB2:Below wr.heap.size wr ((wr.alloc (.cells #[.int .i64 0,.int .i64 0,.int .i64 0,.int .i64 0,.int .i64 0,.int .i64 0,.string ⟨#[]⟩,.string ⟨#[]⟩,.string ⟨#[]⟩,.string ⟨#[]⟩,.int .i64 0,.slice none 0 0,.slice none 0 0] 28)).setCells wr.heap.size 0 e.arr.toList):=setCells_below (Nat.le_refl _) _ _ ((Below.refl _ _).alloc (Nat.le_refl _) _)
      have hld2:=ldE_box _ _ _ _ _ hbE2 rfl
      have kc:=copyE_any _ e (hFe.below hB2) hfe
      have HB2:Hid _:=hB2
      have hl2:=box_lt hbE2
      clear hbE hbE2 hB2 hFe hfe hej
      go_wp2_with fail
      generalize (wr.alloc (.cells #[.int .i64 0,.int .i64 0,.int .i64 0,.int .i64 0,.int .i64 0,.int .i64 0,.string ⟨#[]⟩,.string ⟨#[]⟩,.string ⟨#[]⟩,.string ⟨#[]⟩,.int .i64 0,.slice none 0 0,.slice none 0 0] 28)).setCells wr.heap.size 0 e.arr.toList = W2 at *
      clear hld hth hst hld2
      refine kc.mono ?_
      rintro _ w3 ⟨y,rfl,hy,hO3,hb3⟩
      have hB3:Below wr.heap.size wr w3:=HB2.out.trans (hb3.mono HB2.out.size)
      have hO4:=HO.out.below hB3
      have hO5:OwnsE w3 (w.heap.size + 2) y:=hO3.mono (by omega)
      have hba:Below w3.heap.size w3 (w3.alloc (.cells y.arr 28)):=(Below.refl _ _).alloc (Nat.le_refl _) _
      have hO6:=hO4.below hba
      have hO7:=hO5.below hba
      have hR:=hasR_lit (w:=w3.alloc (.cells y.arr 28)) (size:=13) (xs:=y.arr.toList) (e:=28) (f:=(0,0)) (k:=w3.heap.size) (by rw [Array.toArray_toList];exact heap_alloc_new w3 _) 1 1 rfl (Nat.le_refl _)
      have hrow:=hO6.row
      rw [HL.out] at hrow
      have hz3:=hB3.size
      have hzz:w.heap.size + 2≤(w3.alloc (.cells y.arr 28)).heap.size:=by simp;omega
      have HB3:Hid _:=hB3.trans (hba.mono hB3.size)
      have HO6:Hid _:=hO6
      have HO7:Hid _:=hO7
      clear kc HB2 hO3 hb3 hB3 hO4 hO5 hba hO6 hO7
      go_wp2_with (at_builtin;refine ap_row elemE11 _ rfl _ _ rfl (w.heap.size + 2) _ _ j 1 (entsV ys) y.arr.toList rfl rfl hR (earr_cell y) hrow (by omega) (by omega) hzz ?_;intro v' w' hown' hgrow hwh;refine Halt8.out ?_)
      obtain ⟨p',n',c',rfl⟩:=row_shape11 hown'
      have hP:=OwnsEs.push (s':=⟨p',n',c'⟩) HO6.out HO7.out (by rw [HL.out];exact hown') hgrow
      have HP:Hid (OwnsEs w' (w.heap.size + 2) ⟨p',n',c'⟩ (ys++[y])):=hP
      have HBw:Hid (Below W1.heap.size W1 w'):=by
        have h1:=hb.trans (HB3.out.mono hsz)
        have h2:Below (w.heap.size + 2) (w3.alloc (.cells y.arr 28)) w':=(Below.refl _ _).grown hgrow hzz fun k hk=>(World.ownsRow.lt hrow k hk).1
        rw [Hid,hz1]
        rw [hz1] at h1
        exact h1.trans h2
      clear hP hgrow hwh hown' hrow hR HB3 HO6 HO7
      constructor
      go_wp2
      go_roundw
      case rel =>
        refine ⟨j + 1,⟨p',n',c'⟩,ys++[y],rfl,by go_num,by omega,HP,?_,?_,HBw.out⟩
        · rw [Hid,List.map_append,HM.out,HM2.out,← hy];rfl
        · rw [Hid,List.length_append,HL.out];rfl
      case measure=>simp only [intOf];omega
    · obtain rfl:j = x.w.n:=by omega
      have hM2:Hid (ys.map EntV.e = x.es.map EntV.e):=by
        have:=HM.out
        rw [← hnn.out,List.take_length] at this
        exact this
      have hbx':=box_below hbx hb
      have hby':=box_below hby hb
      have f5:=frozen9 hbx' 5
      have c5:wr.cell? ⟨w.heap.size,5,none⟩ = some (.slice x.w.p x.w.n x.w.c):=box_cell hbx' 5
      have hbz:(wr.setCell ⟨w.heap.size,5,none⟩ (.slice s.p s.n s.c)).heap[w.heap.size]? = some (.cells (StaV.arr ⟨x.i,x.t,x.h,s,ys⟩) 82 (0,0)):=set_block9 hbx' 5 _ (by show 5 < 6;decide)
      have hbw:(wr.setCell ⟨w.heap.size,5,none⟩ (.slice s.p s.n s.c)).heap[w.heap.size + 1]? = some (.cells #[.int .i64 0,.int .i64 0,.int .i64 0,.int .i64 0,.int .i64 0,.slice none 0 0] 82 (0,0)):=(Below.heap_setCell _ _ _ _ (by show w.heap.size + 1 ≠ w.heap.size;omega)).trans hby'
      have hldT:=ldT_box _ _ _ _ _ hbz rfl
      have hthT:=there_box hbw 0 6 (Nat.le_refl _)
      have hstT:=stT_arr 0 ⟨x.i,x.t,x.h,s,ys⟩ hthT
      have hres:=setT_box ⟨x.i,x.t,x.h,s,ys⟩ hbw rfl
      have hlb:=box_lt hbz
      have hlw:=box_lt hbw
      have hlr:=box_lt hbx'
      have hO8:=(HO.out.cell (b:=w.heap.size) (by omega) 5 (.slice s.p s.n s.c)).kept (setCells_grown (w.heap.size + 1) (StaV.arr ⟨x.i,x.t,x.h,s,ys⟩).toList 0 _) (by omega)
      have hB8:Below w.heap.size w ((wr.setCell ⟨w.heap.size,5,none⟩ (.slice s.p s.n s.c)).setCells (w.heap.size + 1) 0 (StaV.arr ⟨x.i,x.t,x.h,s,ys⟩).toList):=setCells_below (by omega) _ _ ((hB1.trans (hb.mono hB1.size)).setCell (Nat.le_refl _) _)
      have HR:Hid _:=hres
      have HO8:Hid _:=hO8
      have HB8:Hid _:=hB8
      clear hbx hby hbx' hby' hbz hbw hres hO8 hB8 HO hB1 hb HE HF
      go_wp2
      refine bodyPost_ret (ret_one rfl _ _ (w.heap.size + 1) _ _ _ _ rfl HR.out Tryz.underlying82 rfl (by kernel_rfl)) rfl ⟨⟨x.i,x.t,x.h,s,ys⟩,rfl,?_,HO8.out.mono (by omega),HB8.out⟩
      show (⟨x.i,x.t,x.h,ys.map EntV.e⟩:Sta11) = ⟨x.i,x.t,x.h,x.es.map EntV.e⟩
      rw [hM2.out]
end Go.Proofs.YtkbbhllchombdaaGreatDoor

namespace Go.Proofs.YtkbbhllchombdaaGreatDoor
open Go.RowKit Go.Shelf
attribute [local go_sem ↓] ldE_exec stE_exec ldE_execI stE_execI ldE_run ldE_box stE_box ldC_exec stC_exec ldC_execI stC_execI ldC_run ldW_exec stW_exec ldW_execI stW_execI ldW_box stW_box ldR_exec stR_exec ldR_execI stR_execI ldR_box stR_box ldT_exec stT_exec ldT_execI stT_execI ldT_box ldU_exec stU_exec ldU_execI stU_execI ldH_exec stH_exec ldH_execI stH_execI ldH_run ldH_box stH_box oc_int oc_bool oc_string oc_slice oc_pointer
section
variable {q:Value} {w:World}
end
theorem ret_tct11 {P:Program} {fn:Func} {p u v:Tmp} {ty:TypeId} (h:fn.results = #[.tmp u,.cell p ty,.tmp v]) (tmps:Array Value) (w:World) (g:Nat) (t:TypeId) (cs:Array Value) (fr:Nat × Nat) (d:TypeDesc)
    (hp:tmps.getD p undef = .pointer (some ⟨g,0,none⟩)) (hg:w.heap[g]? = some (.cells cs t fr))
    (hu:P.underlying ty = some d) (hd:(match d with | .struct _ | .array _ _=>true | _=>false) = true) (hi:(P.info? ty).map (·.size) = some cs.size) :
    (results fn tmps).run P w = .ok (.tuple #[tmps.getD u undef,.agg cs,tmps.getD v undef]) w:=by
  have e:(results fn tmps).run P w = ((asAddr (tmps.getD p undef)).run P w).andThen fun a w₁=>((loadVar ty a).run P w₁).andThen fun x w₂=>.ok (.tuple #[tmps.getD u undef,x,tmps.getD v undef]) w₂:=by
    simp only [results,h]
    simp [Sem.run_bind,Result.andThen]
  rw [e,hp]
  simp [asAddr,run_loadVar_row w g t ty cs fr d hg hu hd hi,Result.andThen]
theorem ldH_inP {w:World} {b:Nat} {x:RecV} {t:TypeId} {fr:Nat × Nat} (h:w.heap[b]? = some (.cells x.arr t fr)):(ldH (.pointer (some ⟨b,14,none⟩))).run Tryz.prog w = .ok (.agg x.h.arr) w:=by
  refine (run_loadAt_mid w b 14 30 x.h.arr.toList _ (fun i v hi=>?_) Tryz.underlying30 rfl (by kernel_rfl)).trans (by rw [Array.toArray_toList])
  have hi3:i < 3:=(List.getElem?_eq_some_iff.1 hi).1
  rw [box_cell h (14 + i),← hi,Array.getElem?_toList]
  rcases i with _ | _ | _ | i <;> first | rfl | omega
set_option maxRecDepth 100000 in
set_option maxHeartbeats 1000000 in
theorem plain_any11 (x:RecV) (w:World):Calls Tryz.prog 12 #[.agg x.arr] w fun e w'=>e = .returned (.agg x.arr)∧Below w.heap.size w w':=by
  have hb1:Below w.heap.size w ((w.alloc (.cells x.arr 32)).alloc (.cells #[.int .i64 0,.int .i64 0,.int .i64 0,.int .i64 0,.int .i64 0,.int .i64 0,.int .i64 0,.string ⟨#[]⟩,.string ⟨#[]⟩,.string ⟨#[]⟩,.string ⟨#[]⟩,.int .i64 0,.slice none 0 0,.slice none 0 0,.int .i64 0,.int .i64 0,.int .i64 0,.int .i64 0,.int .i64 0] 44)):=((Below.refl _ w).alloc (Nat.le_refl _) _).alloc (by simp) _
  have hbx:((w.alloc (.cells x.arr 32)).alloc (.cells #[.int .i64 0,.int .i64 0,.int .i64 0,.int .i64 0,.int .i64 0,.int .i64 0,.int .i64 0,.string ⟨#[]⟩,.string ⟨#[]⟩,.string ⟨#[]⟩,.string ⟨#[]⟩,.int .i64 0,.slice none 0 0,.slice none 0 0,.int .i64 0,.int .i64 0,.int .i64 0,.int .i64 0,.int .i64 0] 44)).heap[w.heap.size]? = some (.cells x.arr 32 (0,0)):=box_below (heap_alloc_new w _) ((Below.refl _ _).alloc (Nat.le_refl _) _)
  have hbz:=heap_alloc_new (w.alloc (.cells x.arr 32)) (.cells #[.int .i64 0,.int .i64 0,.int .i64 0,.int .i64 0,.int .i64 0,.int .i64 0,.int .i64 0,.string ⟨#[]⟩,.string ⟨#[]⟩,.string ⟨#[]⟩,.string ⟨#[]⟩,.int .i64 0,.slice none 0 0,.slice none 0 0,.int .i64 0,.int .i64 0,.int .i64 0,.int .i64 0,.int .i64 0] 44)
  rw [World.size_alloc] at hbz
  have hlE:=ldE_in hbx
  have hlH:=ldH_inP hbx
  have hth:=there_box hbz 0 19 (Nat.le_refl _)
  have y0:((w.alloc (.cells x.arr 32)).alloc (.cells #[.int .i64 0,.int .i64 0,.int .i64 0,.int .i64 0,.int .i64 0,.int .i64 0,.int .i64 0,.string ⟨#[]⟩,.string ⟨#[]⟩,.string ⟨#[]⟩,.string ⟨#[]⟩,.int .i64 0,.slice none 0 0,.slice none 0 0,.int .i64 0,.int .i64 0,.int .i64 0,.int .i64 0,.int .i64 0] 44)).cell? ⟨w.heap.size,0,none⟩ = some (.int .i64 x.k):=box_cell hbx 0
  have y17:((w.alloc (.cells x.arr 32)).alloc (.cells #[.int .i64 0,.int .i64 0,.int .i64 0,.int .i64 0,.int .i64 0,.int .i64 0,.int .i64 0,.string ⟨#[]⟩,.string ⟨#[]⟩,.string ⟨#[]⟩,.string ⟨#[]⟩,.int .i64 0,.slice none 0 0,.slice none 0 0,.int .i64 0,.int .i64 0,.int .i64 0,.int .i64 0,.int .i64 0] 44)).cell? ⟨w.heap.size,17,none⟩ = some (.int .i64 x.i):=box_cell hbx 17
  have y18:((w.alloc (.cells x.arr 32)).alloc (.cells #[.int .i64 0,.int .i64 0,.int .i64 0,.int .i64 0,.int .i64 0,.int .i64 0,.int .i64 0,.string ⟨#[]⟩,.string ⟨#[]⟩,.string ⟨#[]⟩,.string ⟨#[]⟩,.int .i64 0,.slice none 0 0,.slice none 0 0,.int .i64 0,.int .i64 0,.int .i64 0,.int .i64 0,.int .i64 0] 44)).cell? ⟨w.heap.size,18,none⟩ = some (.int .i64 x.t):=box_cell hbx 18
  have hF:=setCells_box hbz 0 x.arr.toList x.arr (Nat.le_refl _) (by simp [RecV.arr])
  have hB9:=setCells_below (Nat.le_succ w.heap.size) x.arr.toList 0 hb1
  clear hbx hbz hb1
  obtain ⟨k,⟨xi,xt,xk,⟨ck,cs,cq,ckey,cold,cval,cunt,clim⟩,⟨⟨p1,n1,c1⟩,⟨q1,m1,d1⟩,f1⟩⟩,⟨ht,hv,hc⟩,ri,rt⟩:=x
  unfold RecV.arr at *
  unfold EntV.arr Hard10.arr at *
  dsimp only at *
  go_enter Tryz.func12,Tryz.ntmps12
  go_wp2
  exact bodyPost_ret (ret_one rfl _ _ (w.heap.size + 1) _ _ _ _ rfl hF Tryz.underlying44 rfl (by kernel_rfl)) rfl ⟨rfl,hB9⟩
def Lives11 (w:World):Prop:=∀ W,Below w.heap.size w W→Calls Tryz.prog 9 #[] W fun e w'=>e = .returned (.bool true)∧Below W.heap.size W w'
end Go.Proofs.YtkbbhllchombdaaGreatDoor
