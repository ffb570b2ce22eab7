import Derived.Test.YtkbbhllchombdaaGreatDoorEnRTo
import Derived.Test.YtkbbhllchombdaaGreatDoorRef6To
import Derived.Test.YtkbbhllchombdaaGreatDoorDkBTo
namespace Go.Proofs.YtkbbhllchombdaaGreatDoor
open Go.RowKit
structure Rec11 where
  k:Int
  e:Ent10
  h:Hard10
  i:Int
  t:Int
def noH11:Hard10:=⟨0,0,0⟩
def noR11:Rec11:=⟨0,noE10,noH11,0,0⟩
def goodR11 (r:Rec11):Bool:=if r.k = 1 then goodE10 r.e else if r.k = 2 then goodH10 r.h else if r.k = 3 then decide (0≤r.i) && decide (0≤r.t) else false
def partR11 (r:Rec11):List Int:=if r.k = 1 then entB r.e else if r.k = 2 then hardB r.h else zigB r.i++zigB r.t
def bodyR11 (r:Rec11):List Int:=zigB r.k++partR11 r
def recB11 (r:Rec11):List Int:=if goodR11 r && decide ((bodyR11 r).length≤1048576) then frameB (bodyR11 r) else []
def readK11 (k:Int) (c:List Int):Rec11 × Bool :=
  if k = 1 then (if (whole10 goodE10 noE10 (pent10 (c,false))).2 = 0 then (⟨1,(whole10 goodE10 noE10 (pent10 (c,false))).1,noH11,0,0⟩,true) else (noR11,false))
  else if k = 2 then (if (whole10 goodH10 noH11 (hard10 (c,false))).2 = 0 then (⟨2,noE10,(whole10 goodH10 noH11 (hard10 (c,false))).1,0,0⟩,true) else (noR11,false))
  else if k = 3 then (if ((int9 (int9 (c,false)).2).2.1.isEmpty && !(int9 (int9 (c,false)).2).2.2) && (decide (0≤(int9 (c,false)).1) && decide (0≤(int9 (int9 (c,false)).2).1)) then (⟨3,noE10,noH11,(int9 (c,false)).1,(int9 (int9 (c,false)).2).1⟩,true) else (noR11,false))
  else (noR11,false)
def readR11 (c:List Int):Rec11 × Bool:=if (getS c).2 = 0 then (noR11,false) else readK11 (zagS (getS c).1) (c.drop (getS c).2)
def scanS11:Nat→List Int→List Rec11 × Nat
  | 0,_=>([],0)
  | f + 1,xs=>if (unframeS xs).2.2 = 0∧(readR11 (unframeS xs).1).2 = true then ((readR11 (unframeS xs).1).1 :: (scanS11 f (xs.drop (unframeS xs).2.1.toNat)).1,(unframeS xs).2.1.toNat + (scanS11 f (xs.drop (unframeS xs).2.1.toNat)).2) else ([],0)
def scan11 (xs:List Int):List Rec11 × Nat:=scanS11 xs.length xs
theorem unframe_len {xs:List Int} (h:(unframeS xs).2.2 = 0):8≤(unframeS xs).2.1.toNat∧(unframeS xs).2.1.toNat≤xs.length∧(unframeS xs).1.length + 8 = (unframeS xs).2.1.toNat∧(unframeS xs).1.length≤1048576:=by
  unfold unframeS at h ⊢
  split at h
  · cases h
  split at h
  · cases h
  split at h
  · cases h
  split at h
  · cases h
  split at h
  · cases h
  split at h
  · cases h
  rename_i h1 h2 h3 h4 h5 h6
  rw [if_neg h1,if_neg h2,if_neg h3,if_neg h4,if_neg h5,if_neg h6]
  dsimp only
  rw [List.length_take,List.length_drop]
  omega
theorem scan_fuel:∀ (f g:Nat) (xs:List Int),xs.length≤f→xs.length≤g→scanS11 f xs = scanS11 g xs
  | 0,0,_,_,_=>rfl
  | 0,g + 1,xs,hf,_=>by
    have:xs = []:=List.eq_nil_of_length_eq_zero (by omega)
    subst this
    rfl
  | f + 1,0,xs,_,hg=>by
    have:xs = []:=List.eq_nil_of_length_eq_zero (by omega)
    subst this
    rfl
  | f + 1,g + 1,xs,hf,hg=>by
    unfold scanS11
    by_cases hc:(unframeS xs).2.2 = 0∧(readR11 (unframeS xs).1).2 = true
    · have hl:=unframe_len hc.1
      have:=scan_fuel f g (xs.drop (unframeS xs).2.1.toNat) (by rw [List.length_drop];omega) (by rw [List.length_drop];omega)
      rw [if_pos hc,if_pos hc,this]
    · rw [if_neg hc,if_neg hc]
theorem scan_none {xs:List Int} (h:¬ ((unframeS xs).2.2 = 0∧(readR11 (unframeS xs).1).2 = true)):scan11 xs = ([],0):=by
  unfold scan11
  cases hn:xs.length with
  | zero=>rfl
  | succ n=>unfold scanS11;rw [if_neg h]
theorem scan_cons {xs:List Int} (h:(unframeS xs).2.2 = 0∧(readR11 (unframeS xs).1).2 = true):scan11 xs = ((readR11 (unframeS xs).1).1 :: (scan11 (xs.drop (unframeS xs).2.1.toNat)).1,(unframeS xs).2.1.toNat + (scan11 (xs.drop (unframeS xs).2.1.toNat)).2):=by
  have hl:=unframe_len h.1
  unfold scan11
  cases hn:xs.length with
  | zero=>omega
  | succ n =>
    rw [scanS11,if_pos h,scan_fuel n (xs.drop (unframeS xs).2.1.toNat).length _ (by rw [List.length_drop];omega) (Nat.le_refl _)]
theorem goodR1 (e:Ent10):goodR11 ⟨1,e,noH11,0,0⟩ = goodE10 e:=rfl
theorem goodR2 (h:Hard10):goodR11 ⟨2,noE10,h,0,0⟩ = goodH10 h:=rfl
theorem goodR3 (i t:Int):goodR11 ⟨3,noE10,noH11,i,t⟩ = (decide (0≤i) && decide (0≤t)):=rfl
theorem whole_zero {α:Type} (g:α→Bool) (n:α) (r:α × St) (h:(whole10 g n r).2 = 0):g (whole10 g n r).1 = true:=by
  unfold whole10 at h ⊢
  split at h
  · rename_i hc
    rw [if_pos hc]
    rw [Bool.and_eq_true] at hc
    exact hc.2
  · cases h
structure Sta11 where
  i:Int
  t:Int
  h:Hard10
  es:List Ent10
def digs11:Nat→Nat→List Int
  | 0,_=>[]
  | f + 1,n=>(if n / 10 = 0 then [] else digs11 f (n / 10))++[48 + ((n % 10:Nat):Int)]
def valN11 (ds:List Int):Nat:=ds.foldl (fun n d=>10 * n + (d - 48).toNat) 0
def isDig11 (ds:List Int):Prop:=∀ d ∈ ds,48≤d∧d≤57
theorem valN_snoc (ds:List Int) (d:Int):valN11 (ds++[d]) = 10 * valN11 ds + (d - 48).toNat:=by simp [valN11]
theorem valN_lt (ds:List Int) (h:isDig11 ds):valN11 ds < 10 ^ ds.length:=by
  induction hn:ds.length generalizing ds with
  | zero=>rw [List.eq_nil_of_length_eq_zero hn];decide
  | succ n ih =>
    have hne:ds ≠ []:=by intro e;rw [e] at hn;cases hn
    have e:=List.dropLast_concat_getLast hne
    have hd:=h _ (List.getLast_mem hne)
    have hl:ds.dropLast.length = n:=by rw [List.length_dropLast];omega
    have:=ih ds.dropLast (fun d hd=>h d (List.dropLast_subset _ hd)) hl
    rw [← e,valN_snoc,Nat.pow_succ]
    omega
theorem digs_len:∀ (f n:Nat),n < 10 ^ f→(digs11 f n).length≤f
  | 0,_,_=>Nat.le_refl _
  | f + 1,n,h=>by
    rw [digs11,List.length_append,List.length_singleton]
    split
    · simp
    · have:=digs_len f (n / 10) (by rw [Nat.pow_succ] at h;omega)
      omega
theorem digs_dig:∀ (f n:Nat),isDig11 (digs11 f n)
  | 0,_=>fun _ h=>by cases h
  | f + 1,n=>by
    intro d hd
    rw [digs11] at hd
    rcases List.mem_append.1 hd with hd | hd
    · split at hd
      · cases hd
      · exact digs_dig f _ d hd
    · rw [List.mem_singleton.1 hd]
      omega
theorem digs_val:∀ (f n:Nat),n < 10 ^ (f + 1)→valN11 (digs11 (f + 1) n) = n
  | 0,n,h=>by
    have h0:n / 10 = 0:=by omega
    rw [digs11,if_pos h0,valN_snoc]
    show 10 * 0 + _ = _
    omega
  | f + 1,n,h=>by
    rw [digs11,valN_snoc]
    have hq:n / 10 < 10 ^ (f + 1):=by rw [Nat.pow_succ] at h;omega
    by_cases h0:n / 10 = 0
    · rw [if_pos h0]
      show 10 * 0 + _ = _
      omega
    · rw [if_neg h0,digs_val f _ hq]
      omega
theorem digs_fuel:∀ (f g n:Nat),n < 10 ^ f→n < 10 ^ g→1≤f→1≤g→digs11 f n = digs11 g n
  | f + 1,g + 1,n,hf,hg,_,_=>by
    rw [digs11,digs11]
    by_cases h0:n / 10 = 0
    · rw [if_pos h0,if_pos h0]
    · rw [if_neg h0,if_neg h0]
      have h1:n / 10 < 10 ^ f:=by rw [Nat.pow_succ] at hf;omega
      have h2:n / 10 < 10 ^ g:=by rw [Nat.pow_succ] at hg;omega
      have f1:1≤f:=by
        rcases Nat.eq_zero_or_pos f with e | e
        · rw [e] at h1;simp at h1;omega
        · exact e
      have g1:1≤g:=by
        rcases Nat.eq_zero_or_pos g with e | e
        · rw [e] at h2;simp at h2;omega
        · exact e
      rw [digs_fuel f g (n / 10) h1 h2 f1 g1]
def pre11:List Int:=[119,97,108,45]
def name11 (n:Int):List Int:=if 1≤n∧n≤999999999 then pre11++digs11 20 n.toNat else []
def dig11 (d:Int):Bool:=decide (48≤d) && decide (d≤57)
def isNum11 (b xs:List Int):Bool:=decide (b.length < xs.length) && decide (xs.length≤b.length + 9) && decide (xs.take b.length = b) && (xs.drop b.length).all dig11 && decide (1≤valN11 (xs.drop b.length)) && decide (digs11 20 (valN11 (xs.drop b.length)) = xs.drop b.length)
def number11 (b xs:List Int):Int × Bool:=if isNum11 b xs = true then ((valN11 (xs.drop b.length):Int),true) else (0,false)
theorem number_name (n:Int) (h1:1≤n) (h2:n≤999999999):number11 pre11 (name11 n) = (n,true):=by
  have hb:n.toNat < 10 ^ (19 + 1):=Nat.lt_of_lt_of_le (show n.toNat < 10 ^ 9 by simp;omega) (Nat.pow_le_pow_right (by omega) (by omega))
  have hv:=digs_val 19 n.toNat hb
  have hl:(digs11 20 n.toNat).length≤9:=by
    rw [digs_fuel 20 9 n.toNat hb (by simp;omega) (by omega) (by omega)]
    exact digs_len 9 _ (by simp;omega)
  have hd:=digs_dig 20 n.toNat
  have hne:0 < (digs11 20 n.toNat).length:=by rw [digs11,List.length_append,List.length_singleton];omega
  have hn:name11 n = pre11++digs11 20 n.toNat:=if_pos ⟨h1,h2⟩
  rw [hn]
  unfold number11
  have hself:digs11 20 n.toNat = digs11 20 n.toNat:=rfl
  revert hself
  generalize hds:digs11 20 n.toNat = ds at *
  intro _
  have hdr:(pre11++ds).drop pre11.length = ds:=List.drop_left
  have hok:isNum11 pre11 (pre11++ds) = true:=by
    unfold isNum11
    rw [hdr,hv]
    simp only [Bool.and_eq_true,decide_eq_true_eq,List.all_eq_true,List.length_append]
    refine ⟨⟨⟨⟨⟨by omega,by omega⟩,List.take_left⟩,fun d h=>?_⟩,by omega⟩,?_⟩
    · have:=hd d h
      simp [dig11]
      exact this
    · exact hds
  rw [if_pos hok,hdr,hv]
  congr 1
  omega
def last11 (s:Sta11):Int:=if s.es.length = 0 then s.i else (s.es.getD (s.es.length - 1) noE10).i
def takes11 (base last:Int) (r:Rec11):Bool:=if r.k = 1 then decide (base < r.e.i) && decide (r.e.i - 1≤last) else if r.k = 2 then true else if r.k = 3 then decide (base≤r.i) else false
def leftN11 (es:List Ent10) (x:Int):Nat→Nat
  | 0=>0
  | n + 1=>if x≤(es.getD n noE10).i then leftN11 es x n else n + 1
def left11 (es:List Ent10) (x:Int):Nat:=leftN11 es x es.length
def goneN11 (es:List Ent10) (x:Int):Nat:=(es.takeWhile fun e=>decide (e.i≤x)).length
def isAt11 (x t:Int) (e:Ent10):Bool:=decide (e.i = x) && decide (e.t = t)
def had11 (si:Int) (es:List Ent10) (x t:Int):Bool:=decide (x = si) || (es.take (goneN11 es x)).any (isAt11 x t)
def pfold11 (s:Sta11) (r:Rec11):Sta11 × Bool :=
  if takes11 s.i (last11 s) r = true then
    (if r.k = 1 then ⟨s.i,s.t,s.h,s.es.take (left11 s.es r.e.i)++[r.e]⟩ else if r.k = 2 then ⟨s.i,s.t,r.h,s.es⟩ else ⟨r.i,r.t,s.h,if had11 s.i s.es r.i r.t = true then s.es.drop (goneN11 s.es r.i) else []⟩,true)
  else (s,false)
def newL11:List Int:=[119,97,108,46,110,101,119]
def newB11:ByteArray:=strOfNums newL11
def nameB11 (n:Int):ByteArray:=strOfNums (name11 n)
def natsOf (x:ByteArray):List Int:=x.data.toList.map fun u=>(u.toNat:Int)
theorem strOf_nats (x:ByteArray):strOfNums (natsOf x) = x:=by
  unfold strOfNums natsOf
  rw [List.map_map]
  have:(fun n:Int=>UInt8.ofNat n.toNat) ∘ (fun u:UInt8=>(u.toNat:Int)) = id:=by
    funext u
    simp
  rw [this,List.map_id]
theorem natsOf_len (x:ByteArray):(natsOf x).length = x.size:=by
  unfold natsOf
  rw [List.length_map,Array.length_toList]
  rfl
theorem nats_strOf {xs:List Int} (h:isB8 xs):natsOf (strOfNums xs) = xs:=by
  unfold natsOf
  rw [strOfNums_data,List.map_map]
  conv=>rhs;rw [← List.map_id xs]
  refine List.map_congr_left fun z hz=>?_
  obtain ⟨h1,h2⟩:=h z hz
  show ((UInt8.ofNat z.toNat).toNat:Int) = z
  have e:(UInt8.ofNat z.toNat).toNat = z.toNat:=by
    show z.toNat % 2 ^ 8 = z.toNat
    exact Nat.mod_eq_of_lt (by omega)
  omega
def num11 (x:ByteArray):Int × Bool:=number11 pre11 (natsOf x)
def insI11 (l:List Int) (n:Int):List Int:=(l.filter fun a=>decide (a≤n))++n :: l.filter fun a=>decide (n < a)
def segs11 (names:List ByteArray):List Int:=names.foldl (fun l x=>if (num11 x).2 = true then insI11 l (num11 x).1 else l) []
def upI11 (l:List Int):Prop:=l.Pairwise fun a b=>a≤b
theorem insI_up {l:List Int} (h:upI11 l) (n:Int):upI11 (insI11 l n):=by
  unfold insI11 upI11
  rw [List.pairwise_append,List.pairwise_cons]
  refine ⟨h.filter _,⟨fun b hb=>?_,h.filter _⟩,fun a ha b hb=>?_⟩
  · have:=(List.mem_filter.1 hb).2
    rw [decide_eq_true_eq] at this
    omega
  · have h1:=(List.mem_filter.1 ha).2
    rw [decide_eq_true_eq] at h1
    rcases List.mem_cons.1 hb with rfl | hb
    · exact h1
    · have:=(List.mem_filter.1 hb).2
      rw [decide_eq_true_eq] at this
      omega
theorem insI_perm (l:List Int) (n:Int):(insI11 l n).Perm (n :: l):=by
  unfold insI11
  refine List.perm_middle.trans (List.Perm.cons _ ?_)
  have h:=List.filter_append_perm (fun a=>decide (a≤n)) l
  have e:(fun a:Int=>decide (n < a)) = fun a=>!decide (a≤n):=by
    funext a
    by_cases h:a≤n
    · rw [decide_eq_true h,decide_eq_false (by omega)];rfl
    · rw [decide_eq_false h,decide_eq_true (by omega)];rfl
  rw [e]
  exact h
def rput11 (M:DM) (b:List Int) (n:Int):Nat × DM :=
  if (M.create newB11).1 ≠ 0 then M.create newB11
  else if b ≠ []∧((M.create newB11).2.append newB11 b).1 ≠ 0 then (M.create newB11).2.append newB11 b
  else if (if b = [] then (M.create newB11).2 else ((M.create newB11).2.append newB11 b).2).syncs.1 ≠ 0 then (if b = [] then (M.create newB11).2 else ((M.create newB11).2.append newB11 b).2).syncs
  else (if b = [] then (M.create newB11).2 else ((M.create newB11).2.append newB11 b).2).syncs.2.rename newB11 (nameB11 n)
def begin11 (M:DM) (n:Int):Nat × DM:=if (M.create (nameB11 n)).1 ≠ 0 then M.create (nameB11 n) else (M.create (nameB11 n)).2.syncs
structure WM where
  seg:Int
  n:Int
  s:Sta11
  dead:Bool
def recs11 (h:Hard10) (s:Sta11) (l:List Ent10):List Rec11:=l.map (fun e=>⟨1,e,noH11,0,0⟩)++if h.t = s.h.t∧h.v = s.h.v∧h.c = s.h.c then [] else [⟨2,noE10,h,0,0⟩]
def drop11 (n:Int):DM→List Int→Nat × DM
  | M,[]=>(0,M)
  | M,a :: l=>if a = n then drop11 n M l else if (M.remove (nameB11 a)).1 = 9 then (9,(M.remove (nameB11 a)).2) else drop11 n (M.remove (nameB11 a)).2 l
def allB11 (s:Sta11):List Int:=recB11 ⟨3,noE10,noH11,s.i,s.t⟩++recB11 ⟨2,noE10,s.h,0,0⟩++(s.es.map fun e=>recB11 ⟨1,e,noH11,0,0⟩).flatten
end Go.Proofs.YtkbbhllchombdaaGreatDoor
