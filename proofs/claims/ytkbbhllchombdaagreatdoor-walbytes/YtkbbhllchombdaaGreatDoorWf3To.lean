import Derived.Test.YtkbbhllchombdaaGreatDoorWe4To
import Derived.Test.YtkbbhllchombdaaGreatDoorWbNTo
namespace Go.Proofs.YtkbbhllchombdaaGreatDoor
open Go.RowKit Go.Shelf Go.Maps
attribute [local go_sem ↓] ldE_exec stE_exec ldE_execI stE_execI ldE_run ldE_box stE_box ldC_exec stC_exec ldC_execI stC_execI ldC_run ldW_exec stW_exec ldW_execI stW_execI ldW_box stW_box ldR_exec stR_exec ldR_execI stR_execI ldR_box stR_box ldT_exec stT_exec ldT_execI stT_execI ldT_box ldU_exec stU_exec ldU_execI stU_execI ldH_exec stH_exec ldH_execI stH_execI ldH_run ldH_box stH_box oc_int oc_bool oc_string oc_slice oc_pointer
attribute [local go_sem ↓] bsE_exec bsE_execI bsE_run bsW_exec bsW_execI bsW_run bdE_exec bdE_execI bdE_run bdH_exec bdH_execI bdH_run bdB_exec bdB_execI bdB_run
section
variable {w0 wb w w':World} {lb d:Nat} {U V:Nat→Prop} {M:DM} {W:WM}
theorem LogU.mono (h:LogU w0 wb w lb d U M W) (hU:∀ k,U k→V k):LogU w0 wb w lb d V M W:=by
  obtain ⟨S,G,x,h1,h2,h3,h4⟩:=h.ex
  exact ⟨S,G,x,h1,h2,h3.mono fun k hk=>.inl (hU k hk),fun k hk=>(h4 k hk).imp (hU k) id⟩
theorem LogU.since {w2:World} (h:LogU w0 w2 w lb d U M W) (hb:Below wb.heap.size wb w2) (hU:∀ k,U k→V k∨wb.heap.size≤k):LogU w0 wb w lb d V M W:=by
  obtain ⟨S,G,x,h1,h2,h3,h4⟩:=h.ex
  refine ⟨S,G,x,h1,h2,(Turn.of_below hb (Nat.le_refl _)).wide h3 hU,fun k hk=>?_⟩
  rcases h4 k hk with h | h
  · exact hU k h
  · have:=hb.size
    exact .inr (by omega)
theorem LogU.setDead (h:LogU w0 wb w lb d U M W) (b:Bool) (hlb:U lb∨wb.heap.size≤lb):LogU w0 wb (w.setCell ⟨lb,9,none⟩ (.bool b)) lb d U M ⟨W.seg,W.n,W.s,b⟩:=by
  obtain ⟨S,G,x,h1,h2,h3,h4⟩:=h.ex
  have hb:=h1.box
  unfold SAt at hb
  have ht:Turn (fun k=>k = lb) w (w.setCell ⟨lb,9,none⟩ (.bool b)):=(Turn.refl (fun k=>k = lb) w).setCell (p:=⟨lb,9,none⟩) (.inl rfl) _
  refine ⟨S,G,x,⟨h1.disk.turn ht (fun k hk e=>h1.apart lb h1.gl (by rw [← e];exact hk)) (fun k e=>by rw [e];exact (h1.own lb h1.gl).1),?_,?_,h1.gl,h1.apart,fun k hk=>⟨(h1.own k hk).1,Nat.lt_of_lt_of_le (h1.own k hk).2 ht.size⟩,h1.seg,h1.last⟩,h2,h3.wide ht fun k hk=>by rw [hk];exact hlb,h4⟩
  · unfold SAt
    refine (set_block9 hb 9 (.bool b) (by show 9 < 10;decide)).trans ?_
    rfl
  · exact h1.sta.stay (stay_box ht hb (by decide)) (stay_box ht hb (by decide))
theorem LogU.cells (h:LogU w0 wb w lb d U M W):w.cell? ⟨lb,0,none⟩ = some (.pointer (some ⟨d,0,none⟩))∧w.cell? ⟨lb,1,none⟩ = some (.int .i64 W.seg)∧w.cell? ⟨lb,8,none⟩ = some (.int .i64 W.n)∧w.cell? ⟨lb,9,none⟩ = some (.bool W.dead):=by
  obtain ⟨S,G,x,h1,_⟩:=h.ex
  exact h1.cells
theorem LogU.lt (h:LogU w0 wb w lb d U M W):lb < w.heap.size:=by
  obtain ⟨S,G,x,h1,_⟩:=h.ex
  exact h1.box.lt
theorem LogU.frozen (h:LogU w0 wb w lb d U M W) (i:Nat):w.frozen? ⟨lb,i,none⟩ = false:=by
  obtain ⟨S,G,x,h1,_⟩:=h.ex
  exact h1.box.frozen i
theorem LogU.turn (h:LogU w0 wb w lb d U M W):Turn U wb w:=by
  obtain ⟨S,G,x,_,_,h3,_⟩:=h.ex
  exact h3
theorem LogU.on (h:LogU w0 wb w lb d U M W):Calls Tryz.prog 58 #[.pointer (some ⟨d,0,none⟩)] w fun e w'=>e = .returned (.bool (!M.off))∧w' = w:=by
  obtain ⟨S,G,x,h1,_⟩:=h.ex
  exact on_any h1.disk.at8
end
structure WalAt (w0 w:World) (q lb d:Nat) (U:Nat→Prop) (M:DM) (W:WM):Prop where
  log:LogU w0 w w lb d U M W
  box:Boxed w q 74 (.pointer (some ⟨lb,0,none⟩))
  nq:¬ U q
  ul:U lb
  own:∀ k,U k→w0.heap.size≤k∧k < w.heap.size
  lo:w0.heap.size≤q
section
variable {w0 w w':World} {q lb d:Nat} {U:Nat→Prop} {M M':DM} {W W':WM}
theorem WalAt.below (h:WalAt w0 w q lb d U M W) (hb:Below w.heap.size w w'):WalAt w0 w' q lb d U M W:=by
  obtain ⟨S,G,x,h1,h2,h3,h4⟩:=h.log.ex
  refine ⟨⟨S,G,x,h1.below hb,h2,Turn.refl _ _,fun k hk=>?_⟩,(hb.block q h.box.lt).trans h.box,h.nq,h.ul,fun k hk=>⟨(h.own k hk).1,Nat.lt_of_lt_of_le (h.own k hk).2 hb.size⟩,h.lo⟩
  rcases h4 k hk with h | h
  · exact .inl h
  · have:k < w.heap.size:=hk.elim (fun hk=>(h1.disk.own k hk).2) (fun hk=>(h1.own k hk).2)
    omega
theorem WalAt.next (h:WalAt w0 w q lb d U M W) (hl:LogU w0 w w' lb d U M' W'):WalAt w0 w' q lb d (more8 U w w') M' W':=by
  obtain ⟨S,G,x,h1,h2,h3,h4⟩:=hl.ex
  have hz:=h3.size
  have hs:w0.heap.size≤w.heap.size:=Nat.le_trans h.lo (Nat.le_of_lt h.box.lt)
  refine ⟨⟨S,G,x,h1,h2,Turn.refl _ _,fun k hk=>.inl ?_⟩,(h3.block q h.box.lt h.nq).trans h.box,fun hk=>?_,.inl h.ul,fun k hk=>?_,h.lo⟩
  · have:k < w'.heap.size:=hk.elim (fun hk=>(h1.disk.own k hk).2) (fun hk=>(h1.own k hk).2)
    rcases h4 k hk with h | h
    · exact .inl h
    · exact .inr ⟨h,this⟩
  · rcases hk with hk | ⟨h5,_⟩
    · exact h.nq hk
    · have:=h.box.lt
      omega
  · rcases hk with hk | ⟨h5,h6⟩
    · exact ⟨(h.own k hk).1,Nat.lt_of_lt_of_le (h.own k hk).2 hz⟩
    · exact ⟨by omega,h6⟩
end
theorem made_any11 {w:World} {q lb:Nat} (h:Boxed w q 74 (.pointer (some ⟨lb,0,none⟩))):Calls Tryz.prog 85 #[.pointer (some ⟨q,0,none⟩)] w fun e w'=>e = .returned (.bool true)∧w' = w:=by
  have c:=h.cell
  have hl:=h.lt
  go_enter Tryz.func85,Tryz.ntmps85
  go_wp2
  go_ret
  exact ⟨rfl,rfl⟩
theorem do_any11 {w0 w:World} {q lb d:Nat} {U:Nat→Prop} {M:DM} {W:WM} (h:WalAt w0 w q lb d U M W) (hd:W.dead = false) (ho:M.off = false) (fn:Nat) (cap:Array Value) (he:∀ args W,(callFunc fn args).run Tryz.prog W = .ok (.enter fn args) W) (R:Nat × WM × DM)
    (hk:Calls Tryz.prog fn cap w fun e w'=>e = .returned (.int .i64 (R.1:Nat))∧LogU w0 w w' lb d U R.2.2 R.2.1) :
    Calls Tryz.prog 80 #[.pointer (some ⟨q,0,none⟩),.func (.func fn) #[] cap] w fun e w'=>e = .returned (.int .i64 (R.1:Nat))∧LogU w0 w w' lb d U R.2.2 ⟨R.2.1.seg,R.2.1.n,R.2.1.s,decide (R.1 = 9)⟩:=by
  have km:=made_any11 h.box
  have c0:=h.box.cell
  have hlq:=h.box.lt
  obtain ⟨d0,-,-,d9⟩:=h.log.cells
  have hlb:=h.log.lt
  have kon:=h.log.on
  rw [ho] at kon
  rw [hd] at d9
  clear hd ho
  obtain ⟨re,RW,RM⟩:=R
  dsimp only at *
  go_enter Tryz.func80,Tryz.ntmps80
  go_wp2_with fail
  refine same_mono km ?_
  go_wp2_with fail
  refine same_mono kon ?_
  go_wp2_with fail
  refine hk.mono ?_
  rintro _ w' ⟨rfl,hL⟩
  have HL:Hid (LogU w0 w w' lb d U RM RW):=hL
  have hbq:Boxed w' q 74 (.pointer (some ⟨lb,0,none⟩)):=(hL.turn.block q h.box.lt h.nq).trans h.box
  have c0':=hbq.cell
  have hlq':=hbq.lt
  have hlb':=hL.lt
  obtain ⟨e0,-,-,e9⟩:=hL.cells
  have hfr:=hL.frozen 9
  clear hL hk km kon c0 hlq d0 d9 hlb hbq
  by_cases h9:re = 9
  · subst h9
    go_wp2
    go_ret
    exact ⟨rfl,HL.setDead true (.inl h.ul)⟩
  · have f9:(((re:Nat):Int) == 9) = false:=by rw [beq_eq_false_iff_ne];omega
    go_wp2
    go_ret
    refine ⟨rfl,?_⟩
    rw [show decide (re = 9) = false from decide_eq_false h9]
    exact HL.setDead false (.inl h.ul)
section
variable {w0 w w':World} {q lb d:Nat} {U:Nat→Prop} {M:DM} {W:WM}
set_option maxRecDepth 100000 in
set_option maxHeartbeats 1000000 in
theorem save1_any {b1 b2 b3:Nat} (hq:Boxed w q 74 (.pointer (some ⟨lb,0,none⟩))) (hh:Hard10) (s:Sl10) (h1:Boxed w b1 62 (.pointer (some ⟨q,0,none⟩))) (h2:w.heap[b2]? = some (.cells hh.arr 30 (0,0))) (h3:Boxed w b3 66 (.slice s.p s.n s.c)) (nq:¬ U q) (n1:¬ U b1) (n2:¬ U b2) (n3:¬ U b3) (R:Nat × WM × DM)
    (hk:Calls Tryz.prog 82 #[.pointer (some ⟨lb,0,none⟩),.agg hh.arr,.slice s.p s.n s.c] w.drew fun e w'=>e = .returned (.int .i64 (R.1:Nat))∧LogU w0 w.drew w' lb d U R.2.2 R.2.1) :
    Calls Tryz.prog 81 #[.pointer (some ⟨b1,0,none⟩),.pointer (some ⟨b2,0,none⟩),.pointer (some ⟨b3,0,none⟩)] w fun e w'=>e = .returned (.int .i64 (R.1:Nat))∧LogU w0 w w' lb d U R.2.2 R.2.1:=by
  have hld:=ldH_box w _ _ _ _ h2 rfl
  have s0:w.drew.cell? ⟨q,0,none⟩ = some (.pointer (some ⟨lb,0,none⟩))∧w.drew.cell? ⟨b1,0,none⟩ = some (.pointer (some ⟨q,0,none⟩))∧(ldH (.pointer (some ⟨b2,0,none⟩))).run Tryz.prog w.drew = .ok (.agg hh.arr) w.drew∧w.drew.cell? ⟨b3,0,none⟩ = some (.slice s.p s.n s.c):=⟨hq.cell,h1.cell,ldH_box w.drew _ _ _ _ h2 rfl,h3.cell⟩
  have HS:Hid (∀ w',Turn U w.drew w'→w'.cell? ⟨q,0,none⟩ = some (.pointer (some ⟨lb,0,none⟩))∧w'.cell? ⟨b1,0,none⟩ = some (.pointer (some ⟨q,0,none⟩))∧(ldH (.pointer (some ⟨b2,0,none⟩))).run Tryz.prog w' = .ok (.agg hh.arr) w'∧w'.cell? ⟨b3,0,none⟩ = some (.slice s.p s.n s.c)):=fun w' ht=>by
    have e1:Boxed w' q 74 (.pointer (some ⟨lb,0,none⟩)):=(ht.block q hq.lt nq).trans hq
    have e2:Boxed w' b1 62 (.pointer (some ⟨q,0,none⟩)):=(ht.block b1 h1.lt n1).trans h1
    have e3:Boxed w' b3 66 (.slice s.p s.n s.c):=(ht.block b3 h3.lt n3).trans h3
    exact ⟨e1.cell,e2.cell,ldH_box w' _ _ _ _ ((ht.block b2 (box_lt h2) n2).trans h2) rfl,e3.cell⟩
  have hlq:=hq.lt
  have hl1:=h1.lt
  have hl2:=box_lt h2
  have hl3:=h3.lt
  clear hq h1 h2 h3 hld
  generalize hh.arr = ha at *
  obtain ⟨re,RW,RM⟩:=R
  dsimp only at *
  go_enter Tryz.func81,Tryz.ntmps81
  go_wp2_with fail
  go_region_held3 (fun w'=>w'.cell? ⟨q,0,none⟩ = some (.pointer (some ⟨lb,0,none⟩))∧w'.cell? ⟨b1,0,none⟩ = some (.pointer (some ⟨q,0,none⟩))∧(ldH (.pointer (some ⟨b2,0,none⟩))).run Tryz.prog w' = .ok (.agg ha) w'∧w'.cell? ⟨b3,0,none⟩ = some (.slice s.p s.n s.c))
    (first | (with_reducible exact s0) | (with_reducible assumption))
    (first
      | (go_at_call 82;(with_reducible refine Calls.mono hk ?_);rintro _ w1 ⟨rfl,hL1⟩;have e1:=HS.out w1 hL1.turn))
  go_wp2
  go_ret
  exact ⟨rfl,hL1.since (on_drew (Below.refl _ w)) fun k hk=>.inl hk⟩
set_option maxRecDepth 100000 in
set_option maxHeartbeats 1000000 in
theorem compact1_any {b1 b2 b3:Nat} (hq:Boxed w q 74 (.pointer (some ⟨lb,0,none⟩))) (i t:Int) (h1:Boxed w b1 62 (.pointer (some ⟨q,0,none⟩))) (h2:Boxed w b2 3 (.int .i64 i)) (h3:Boxed w b3 3 (.int .i64 t)) (nq:¬ U q) (n1:¬ U b1) (n2:¬ U b2) (n3:¬ U b3) (R:Nat × WM × DM)
    (hk:Calls Tryz.prog 84 #[.pointer (some ⟨lb,0,none⟩),.int .i64 i,.int .i64 t] w.drew fun e w'=>e = .returned (.int .i64 (R.1:Nat))∧LogU w0 w.drew w' lb d U R.2.2 R.2.1) :
    Calls Tryz.prog 83 #[.pointer (some ⟨b1,0,none⟩),.pointer (some ⟨b2,0,none⟩),.pointer (some ⟨b3,0,none⟩)] w fun e w'=>e = .returned (.int .i64 (R.1:Nat))∧LogU w0 w w' lb d U R.2.2 R.2.1:=by
  have s0:w.drew.cell? ⟨q,0,none⟩ = some (.pointer (some ⟨lb,0,none⟩))∧w.drew.cell? ⟨b1,0,none⟩ = some (.pointer (some ⟨q,0,none⟩))∧w.drew.cell? ⟨b2,0,none⟩ = some (.int .i64 i)∧w.drew.cell? ⟨b3,0,none⟩ = some (.int .i64 t):=⟨hq.cell,h1.cell,h2.cell,h3.cell⟩
  have HS:Hid (∀ w',Turn U w.drew w'→w'.cell? ⟨q,0,none⟩ = some (.pointer (some ⟨lb,0,none⟩))∧w'.cell? ⟨b1,0,none⟩ = some (.pointer (some ⟨q,0,none⟩))∧w'.cell? ⟨b2,0,none⟩ = some (.int .i64 i)∧w'.cell? ⟨b3,0,none⟩ = some (.int .i64 t)):=fun w' ht=>by
    have e1:Boxed w' q 74 (.pointer (some ⟨lb,0,none⟩)):=(ht.block q hq.lt nq).trans hq
    have e2:Boxed w' b1 62 (.pointer (some ⟨q,0,none⟩)):=(ht.block b1 h1.lt n1).trans h1
    have e3:Boxed w' b2 3 (.int .i64 i):=(ht.block b2 h2.lt n2).trans h2
    have e4:Boxed w' b3 3 (.int .i64 t):=(ht.block b3 h3.lt n3).trans h3
    exact ⟨e1.cell,e2.cell,e3.cell,e4.cell⟩
  have hlq:=hq.lt
  have hl1:=h1.lt
  have hl2:=h2.lt
  have hl3:=h3.lt
  clear hq h1 h2 h3
  obtain ⟨re,RW,RM⟩:=R
  dsimp only at *
  go_enter Tryz.func83,Tryz.ntmps83
  go_wp2_with fail
  go_region_held3 (fun w'=>w'.cell? ⟨q,0,none⟩ = some (.pointer (some ⟨lb,0,none⟩))∧w'.cell? ⟨b1,0,none⟩ = some (.pointer (some ⟨q,0,none⟩))∧w'.cell? ⟨b2,0,none⟩ = some (.int .i64 i)∧w'.cell? ⟨b3,0,none⟩ = some (.int .i64 t))
    (first | (with_reducible exact s0) | (with_reducible assumption))
    (first
      | (go_at_call 84;(with_reducible refine Calls.mono hk ?_);rintro _ w1 ⟨rfl,hL1⟩;have e1:=HS.out w1 hL1.turn))
  go_wp2
  go_ret
  exact ⟨rfl,hL1.since (on_drew (Below.refl _ w)) fun k hk=>.inl hk⟩
end
section
variable {w0 w w':World} {q lb d c:Nat} {U:Nat→Prop} {M:DM} {W:WM}
theorem WalAt.log11 (h:WalAt w0 w q lb d U M W):∃ S G x,Log11 w0 w lb d S G M ⟨W.seg,W.n,x,W.dead⟩∧x.s = W.s∧∀ k,S k∨G k→U k:=by
  obtain ⟨S,G,x,h1,h2,h3,h4⟩:=h.log.ex
  refine ⟨S,G,x,h1,h2,fun k hk=>?_⟩
  rcases h4 k hk with h | h
  · exact h
  · have:k < w.heap.size:=hk.elim (fun hk=>(h1.disk.own k hk).2) (fun hk=>(h1.own k hk).2)
    omega
theorem WalAt.fresh (h:WalAt w0 w q lb d U M W) {k:Nat} (hk:w.heap.size≤k):¬ U k:=fun hu=>by
  have:=(h.own k hu).2
  omega
def WM.did (e:Nat) (W:WM):WM:=⟨W.seg,W.n,W.s,decide (e = 9)⟩
set_option maxRecDepth 100000 in
set_option maxHeartbeats 1000000 in
theorem saveT_any (h:WalAt w0 w q lb d U M W) (h0:Gl11 w0) (hO:M.OkN c) (hc:c + 4 < 1099511627776) (hd:W.dead = false) (ho:M.off = false) (hn:1≤W.n∧W.n≤999999999) (hxl:W.s.es.length≤100000000) (hh:Hard10) (hfh:FitsH hh) (s:Sl10) (es:List EntV) (hE:HasE w s es) (hf:FewL es) (hl:es.length≤9999) (hg:∀ r ∈ recs11 hh W.s (es.map EntV.e),goodR11 r = true) :
    Calls Tryz.prog 27 #[.pointer (some ⟨q,0,none⟩),.agg hh.arr,.slice s.p s.n s.c] w fun e w'=>e = .returned (.int .i64 ((saveP M W (recs11 hh W.s (es.map EntV.e))).1:Nat))∧LogU w0 w w' lb d U (saveP M W (recs11 hh W.s (es.map EntV.e))).2.2 ((saveP M W (recs11 hh W.s (es.map EntV.e))).2.1.did (saveP M W (recs11 hh W.s (es.map EntV.e))).1):=by
  have hmf:∀ (fn:Fn) (first cap:Array Value) (w:World),(Instr.makeFunc fn first cap).run Tryz.prog w = .ok (.func fn first cap) w:=fun _ _ _ _=>rfl
  have hB:Below w.heap.size w (((w.alloc (.cells #[.pointer (some ⟨q,0,none⟩)] 62)).alloc (.cells hh.arr 30)).alloc (.cells #[.slice s.p s.n s.c] 66)):=(((Below.refl _ w).alloc (Nat.le_refl _) _).alloc (by simp) _).alloc (by simp;omega) _
  have e1:Boxed (((w.alloc (.cells #[.pointer (some ⟨q,0,none⟩)] 62)).alloc (.cells hh.arr 30)).alloc (.cells #[.slice s.p s.n s.c] 66)) w.heap.size 62 (.pointer (some ⟨q,0,none⟩)):=box_below (heap_alloc_new w _) (((Below.refl _ _).alloc (Nat.le_refl _) _).alloc (by simp) _)
  have e2:(((w.alloc (.cells #[.pointer (some ⟨q,0,none⟩)] 62)).alloc (.cells hh.arr 30)).alloc (.cells #[.slice s.p s.n s.c] 66)).heap[w.heap.size + 1]? = some (.cells hh.arr 30 (0,0)):=by
    have:=box_below (heap_alloc_new (w.alloc (.cells #[.pointer (some ⟨q,0,none⟩)] 62)) (.cells hh.arr 30)) ((Below.refl _ _).alloc (Nat.le_refl _) (.cells #[.slice s.p s.n s.c] 66))
    rwa [World.size_alloc] at this
  have e3:Boxed (((w.alloc (.cells #[.pointer (some ⟨q,0,none⟩)] 62)).alloc (.cells hh.arr 30)).alloc (.cells #[.slice s.p s.n s.c] 66)) (w.heap.size + 2) 66 (.slice s.p s.n s.c):=by
    have:=heap_alloc_new ((w.alloc (.cells #[.pointer (some ⟨q,0,none⟩)] 62)).alloc (.cells hh.arr 30)) (.cells #[.slice s.p s.n s.c] 66)
    rwa [World.size_alloc,World.size_alloc] at this
  have hz:(((w.alloc (.cells #[.pointer (some ⟨q,0,none⟩)] 62)).alloc (.cells hh.arr 30)).alloc (.cells #[.slice s.p s.n s.c] 66)).heap.size = w.heap.size + 3:=by simp
  have c1:=e1.cell
  have K:∀ W3,Below w.heap.size w W3→Boxed W3 w.heap.size 62 (.pointer (some ⟨q,0,none⟩))→W3.heap[w.heap.size + 1]? = some (.cells hh.arr 30 (0,0))→Boxed W3 (w.heap.size + 2) 66 (.slice s.p s.n s.c)→Calls Tryz.prog 80 #[.pointer (some ⟨q,0,none⟩),.func (.func 81) #[] #[.pointer (some ⟨w.heap.size,0,none⟩),.pointer (some ⟨w.heap.size + 1,0,none⟩),.pointer (some ⟨w.heap.size + 2,0,none⟩)]] W3 fun e w'=>e = .returned (.int .i64 ((saveP M W (recs11 hh W.s (es.map EntV.e))).1:Nat))∧LogU w0 w w' lb d U (saveP M W (recs11 hh W.s (es.map EntV.e))).2.2 ((saveP M W (recs11 hh W.s (es.map EntV.e))).2.1.did (saveP M W (recs11 hh W.s (es.map EntV.e))).1):=fun W3 hB e1 e2 e3=>by
    have h3:=h.below hB
    have hB':Below w.heap.size w W3.drew:=on_drew hB
    have h3':=h.below hB'
    obtain ⟨S,G,x,g1,g2,g3⟩:=h3'.log11
    have hxl':x.es.length≤100000000:=by
      have:x.es.length = W.s.es.length:=by rw [← g2];unfold StaV.s;simp
      omega
    have k:=saveW_any g1 g2 h0 hO hc hn hxl' hh hfh s es (hE.below hB') hf hl hg
    have k1:=save1_any (w0:=w0) (d:=d) (U:=U) h3.box hh s e1 e2 e3 h.nq (h.fresh (Nat.le_refl _)) (h.fresh (by omega)) (h.fresh (by omega)) (saveP M W (recs11 hh W.s (es.map EntV.e))) (k.mono fun e w' he=>⟨he.1,he.2.mono g3⟩)
    refine (do_any11 h3 hd ho 81 _ (fun _ _=>rfl) _ k1).mono fun e w' he=>⟨he.1,?_⟩
    exact he.2.since hB fun k hk=>.inl hk
  have k:=K _ hB e1 e2 e3
  clear K e1 e2 e3 h h0 hO hE hf hg hB hd ho hfh
  generalize saveP M W (recs11 hh W.s (es.map EntV.e)) = R at *
  generalize hh.arr = ha at *
  obtain ⟨sp,sn,sc⟩:=s
  dsimp only at *
  go_enter Tryz.func27,Tryz.ntmps27
  go_wp2_with fail
  refine k.mono ?_
  rintro _ w9 ⟨rfl,hL⟩
  go_wp2
  go_ret
  exact ⟨rfl,hL⟩
set_option maxRecDepth 100000 in
set_option maxHeartbeats 1000000 in
theorem compactT_any (h:WalAt w0 w q lb d U M W) (h0:Gl11 w0) (hO:M.OkN c) (hc:c + 16777300 < 1099511627776) (hd:W.dead = false) (ho:M.off = false) (hn:1≤W.n∧W.n≤999999999) (hxl:W.s.es.length≤9999) (hxf:FewS W.s) (i t:Int) (hi:inI i) (ht:inI t) (hg:goodR11 (recBs i t) = true) (hk:(pfold11 W.s (recBs i t)).2 = true) (hn9:W.n ≠ 999999999) :
    Calls Tryz.prog 28 #[.pointer (some ⟨q,0,none⟩),.int .i64 i,.int .i64 t] w fun e w'=>e = .returned (.int .i64 ((compactP M W i t).1:Nat))∧LogU w0 w w' lb d U (compactP M W i t).2.2 ((compactP M W i t).2.1.did (compactP M W i t).1):=by
  have hmf:∀ (fn:Fn) (first cap:Array Value) (w:World),(Instr.makeFunc fn first cap).run Tryz.prog w = .ok (.func fn first cap) w:=fun _ _ _ _=>rfl
  have hB:Below w.heap.size w (((w.alloc (.cells #[.pointer (some ⟨q,0,none⟩)] 62)).alloc (.cells #[.int .i64 i] 3)).alloc (.cells #[.int .i64 t] 3)):=(((Below.refl _ w).alloc (Nat.le_refl _) _).alloc (by simp) _).alloc (by simp;omega) _
  have e1:Boxed (((w.alloc (.cells #[.pointer (some ⟨q,0,none⟩)] 62)).alloc (.cells #[.int .i64 i] 3)).alloc (.cells #[.int .i64 t] 3)) w.heap.size 62 (.pointer (some ⟨q,0,none⟩)):=box_below (heap_alloc_new w _) (((Below.refl _ _).alloc (Nat.le_refl _) _).alloc (by simp) _)
  have e2:(((w.alloc (.cells #[.pointer (some ⟨q,0,none⟩)] 62)).alloc (.cells #[.int .i64 i] 3)).alloc (.cells #[.int .i64 t] 3)).heap[w.heap.size + 1]? = some (.cells #[.int .i64 i] 3 (0,0)):=by
    have:=box_below (heap_alloc_new (w.alloc (.cells #[.pointer (some ⟨q,0,none⟩)] 62)) (.cells #[.int .i64 i] 3)) ((Below.refl _ _).alloc (Nat.le_refl _) (.cells #[.int .i64 t] 3))
    rwa [World.size_alloc] at this
  have e3:Boxed (((w.alloc (.cells #[.pointer (some ⟨q,0,none⟩)] 62)).alloc (.cells #[.int .i64 i] 3)).alloc (.cells #[.int .i64 t] 3)) (w.heap.size + 2) 3 (.int .i64 t):=by
    have:=heap_alloc_new ((w.alloc (.cells #[.pointer (some ⟨q,0,none⟩)] 62)).alloc (.cells #[.int .i64 i] 3)) (.cells #[.int .i64 t] 3)
    rwa [World.size_alloc,World.size_alloc] at this
  have hz:(((w.alloc (.cells #[.pointer (some ⟨q,0,none⟩)] 62)).alloc (.cells #[.int .i64 i] 3)).alloc (.cells #[.int .i64 t] 3)).heap.size = w.heap.size + 3:=by simp
  have c1:=e1.cell
  have XF:∀ x:StaV,x.s = W.s→FewL x.es:=fun x hx=>FewS.of (by rw [hx];exact hxf)
  have K:∀ W3,Below w.heap.size w W3→Boxed W3 w.heap.size 62 (.pointer (some ⟨q,0,none⟩))→W3.heap[w.heap.size + 1]? = some (.cells #[.int .i64 i] 3 (0,0))→Boxed W3 (w.heap.size + 2) 3 (.int .i64 t)→Calls Tryz.prog 80 #[.pointer (some ⟨q,0,none⟩),.func (.func 83) #[] #[.pointer (some ⟨w.heap.size,0,none⟩),.pointer (some ⟨w.heap.size + 1,0,none⟩),.pointer (some ⟨w.heap.size + 2,0,none⟩)]] W3 fun e w'=>e = .returned (.int .i64 ((compactP M W i t).1:Nat))∧LogU w0 w w' lb d U (compactP M W i t).2.2 ((compactP M W i t).2.1.did (compactP M W i t).1):=fun W3 hB e1 e2 e3=>by
    have h3:=h.below hB
    have hB':Below w.heap.size w W3.drew:=on_drew hB
    have h3':=h.below hB'
    obtain ⟨S,G,x,g1,g2,g3⟩:=h3'.log11
    have hxl':x.es.length≤9999:=by
      have:x.es.length = W.s.es.length:=by rw [← g2];unfold StaV.s;simp
      omega
    have hxf':FewL x.es:=XF x g2
    have k:=compactW_any g1 g2 h0 hO hc hn hxl' hxf' i t hi ht hg hk hn9
    have k1:=compact1_any (w0:=w0) (d:=d) (U:=U) h3.box i t e1 e2 e3 h.nq (h.fresh (Nat.le_refl _)) (h.fresh (by omega)) (h.fresh (by omega)) (compactP M W i t) (k.mono fun e w' he=>⟨he.1,he.2.mono g3⟩)
    refine (do_any11 h3 hd ho 83 _ (fun _ _=>rfl) _ k1).mono fun e w' he=>⟨he.1,?_⟩
    exact he.2.since hB fun k hk=>.inl hk
  have k:=K _ hB e1 e2 e3
  clear K e1 e2 e3 h h0 hO hg hk hB hd ho hxf hxl XF
  generalize compactP M W i t = R at *
  go_enter Tryz.func28,Tryz.ntmps28
  go_wp2_with fail
  refine k.mono ?_
  rintro _ w9 ⟨rfl,hL⟩
  go_wp2
  go_ret
  exact ⟨rfl,hL⟩
end
section
variable {w0 w w':World} {q lb d c:Nat} {U:Nat→Prop} {M:DM} {W:WM}
set_option maxRecDepth 100000 in
set_option maxHeartbeats 1000000 in
theorem stateT_any (h:WalAt w0 w q lb d U M W) (hxl:W.s.es.length≤100000000) (hxf:FewS W.s) :
    Calls Tryz.prog 31 #[.pointer (some ⟨q,0,none⟩)] w fun e w'=>∃ y:StaV,e = .returned (.agg y.arr)∧y.s = W.s∧OwnsEs w' (w.heap.size + 1) y.w y.es∧Below w.heap.size w w':=by
  have hB:Below w.heap.size w (w.alloc (.cells #[.int .i64 0,.int .i64 0,.int .i64 0,.int .i64 0,.int .i64 0,.slice none 0 0] 82)):=(Below.refl _ w).alloc (Nat.le_refl _) _
  have hbx:=heap_alloc_new w (.cells #[.int .i64 0,.int .i64 0,.int .i64 0,.int .i64 0,.int .i64 0,.slice none 0 0] 82)
  have hz:(w.alloc (.cells #[.int .i64 0,.int .i64 0,.int .i64 0,.int .i64 0,.int .i64 0,.slice none 0 0] 82)).heap.size = w.heap.size + 1:=by simp
  have h1:=h.below hB
  have km:=made_any11 h1.box
  have c0:=h1.box.cell
  have hlq:=h1.box.lt
  have hlb:=h1.log.lt
  obtain ⟨S,G,x,g1,g2,g3⟩:=h1.log11
  have hld:(ldT (.pointer (some ⟨lb,2,none⟩))).run Tryz.prog (w.alloc (.cells #[.int .i64 0,.int .i64 0,.int .i64 0,.int .i64 0,.int .i64 0,.slice none 0 0] 82)) = .ok (.agg x.arr) (w.alloc (.cells #[.int .i64 0,.int .i64 0,.int .i64 0,.int .i64 0,.int .i64 0,.slice none 0 0] 82)):=g1.box.ldT
  have hxl':x.es.length = W.s.es.length:=by rw [← g2];unfold StaV.s;simp
  have k:=copyS_any (w.alloc (.cells #[.int .i64 0,.int .i64 0,.int .i64 0,.int .i64 0,.int .i64 0,.slice none 0 0] 82)) x g1.sta.row.has (fun e he=>(FewS.of (by rw [g2];exact hxf) e he).1) (by omega)
  rw [hz] at k
  have HX:Hid (x.s = W.s):=g2
  have HB:Hid (Below w.heap.size w (w.alloc (.cells #[.int .i64 0,.int .i64 0,.int .i64 0,.int .i64 0,.int .i64 0,.slice none 0 0] 82))):=hB
  have HBX:Hid ((w.alloc (.cells #[.int .i64 0,.int .i64 0,.int .i64 0,.int .i64 0,.int .i64 0,.slice none 0 0] 82)).heap[w.heap.size]? = some (.cells #[.int .i64 0,.int .i64 0,.int .i64 0,.int .i64 0,.int .i64 0,.slice none 0 0] 82 (0,0))):=hbx
  have HZ:Hid ((w.alloc (.cells #[.int .i64 0,.int .i64 0,.int .i64 0,.int .i64 0,.int .i64 0,.slice none 0 0] 82)).heap.size = w.heap.size + 1):=hz
  clear h h1 g1 g2 g3 hxl hxf hxl' hB hbx
  go_enter Tryz.func31,Tryz.ntmps31
  go_wp2_with fail
  refine same_mono km ?_
  go_wp2_with fail
  refine k.mono ?_
  rintro _ w2 ⟨y,rfl,hy,hO,hb2⟩
  have hb2':Below (w.alloc (.cells #[.int .i64 0,.int .i64 0,.int .i64 0,.int .i64 0,.int .i64 0,.slice none 0 0] 82)).heap.size (w.alloc (.cells #[.int .i64 0,.int .i64 0,.int .i64 0,.int .i64 0,.int .i64 0,.slice none 0 0] 82)) w2:=by rw [HZ.out];exact hb2
  have hbx2:=box_below HBX.out hb2'
  have hth:=there_box hbx2 0 6 (Nat.le_refl _)
  have hst:=stT_arr 0 y hth
  have hF:=setT_box y hbx2 rfl
  have hB9:Below w.heap.size w (w2.setCells w.heap.size 0 y.arr.toList):=setCells_below (Nat.le_refl _) _ _ (HB.out.trans (hb2'.mono HB.out.size))
  have hO9:=hO.kept (setCells_grown w.heap.size y.arr.toList 0 w2) (Nat.lt_succ_self _)
  have hl2:=box_lt hbx2
  clear k km hld
  go_wp2
  refine bodyPost_ret (ret_one rfl _ _ w.heap.size _ _ _ _ rfl hF Tryz.underlying82 rfl (by kernel_rfl)) rfl ⟨y,rfl,hy.trans HX.out,hO9,hB9⟩
set_option maxRecDepth 100000 in
set_option maxHeartbeats 1000000 in
theorem segmentsT_any (h:WalAt w0 w q lb d U M W) (h0:Gl11 w0) (hI:M.Inv) :
    Calls Tryz.prog 29 #[.pointer (some ⟨q,0,none⟩)] w fun e w'=>(∃ p n c,e = .returned (.slice p n c)∧OwnsI w' w.heap.size (.slice p n c) (segs11 M.listT))∧Below w.heap.size w w':=by
  have km:=made_any11 h.box
  have c0:=h.box.cell
  have hlq:=h.box.lt
  obtain ⟨S,G,x,g1,g2,g3⟩:=h.log11
  have k:=numbers_any g1 h0 hI
  clear h g1 g2 g3
  go_enter Tryz.func29,Tryz.ntmps29
  go_wp2_with fail
  refine same_mono km ?_
  go_wp2_with fail
  refine k.mono ?_
  rintro _ w2 ⟨⟨p,n,c,rfl,hO⟩,hb2⟩
  go_wp2
  go_ret
  exact ⟨⟨p,n,c,rfl,hO⟩,hb2⟩
end
def readyP (M:DM):Nat:=if M.off = true then 9 else 0
set_option maxRecDepth 100000 in
set_option maxHeartbeats 1000000 in
theorem readyP_any {w:World} {d:Nat} {S:Nat→Prop} {M:DM} (hD:DiskAt w d S M) (hI:M.Inv) (h0:(⟨#[]⟩:ByteArray) ∉ M.names) :
    Calls Tryz.prog 88 #[.pointer (some ⟨d,0,none⟩)] w fun e w'=>e = .returned (.int .i64 (readyP M:Nat))∧Below w.heap.size w w':=by
  have k:=read_any hD hI (x:=⟨#[]⟩) (by decide)
  have e1:M.readE ⟨#[]⟩ = if M.off = true then 9 else 4:=by unfold DM.readE;rw [if_pos h0]
  have hmix:Tryz.prog.follows Departure.mixedOrders = true:=by kernel_rfl
  unfold readyP
  clear hD hI
  cases ho:M.off with
  | true =>
    rw [e1,ho,if_pos rfl] at k
    rw [if_pos rfl]
    clear e1
    go_enter Tryz.func88,Tryz.ntmps88
    go_wp2_with (go_at_call 157;refine k.mono ?_;rintro _ w2 ⟨⟨v,rfl,hO⟩,hb2⟩)
    go_ret
    exact ⟨rfl,hb2⟩
  | false =>
    rw [e1,ho,if_neg (by decide)] at k
    rw [if_neg (by decide)]
    clear e1
    go_enter Tryz.func88,Tryz.ntmps88
    go_wp2_with (go_at_call 157;refine k.mono ?_;rintro _ w2 ⟨⟨v,rfl,hO⟩,hb2⟩)
    go_ret
    exact ⟨rfl,hb2⟩
set_option maxRecDepth 100000 in
set_option maxHeartbeats 1000000 in
theorem openL_none {w0 w:World} {lb d c:Nat} {S G:Nat→Prop} {M:DM} {L:LogV} (h:Log11 w0 w lb d S G M L) (h0:Gl11 w0) (hO:M.OkN c) (hc:c + 2 < 1099511627776) (hs:segs11 M.listT = []) :
    Calls Tryz.prog 89 #[.pointer (some ⟨lb,0,none⟩)] w fun e w'=>e = .returned (.int .i64 ((begin11 M 1).1:Nat))∧LogS w0 w w' lb d S G (begin11 M 1).2 (L.begun (begin11 M 1).1 1):=by
  have k:=numbers_any h h0 hO.inv
  rw [hs] at k
  have KB:Hid (∀ w1,Below w.heap.size w w1→Calls Tryz.prog 158 #[.pointer (some ⟨lb,0,none⟩),.int .i64 1] w1 fun e w'=>e = .returned (.int .i64 ((begin11 M 1).1:Nat))∧LogS w0 w w' lb d S G (begin11 M 1).2 (L.begun (begin11 M 1).1 1)):=fun w1 hb=>beginW_any ((LogS.of (h.below hb)).since hb) h0 hO hc 1 (by decide)
  clear h h0 hO hs
  go_enter Tryz.func89,Tryz.ntmps89
  go_wp2_with fail
  refine k.mono ?_
  rintro _ w1 ⟨⟨p,n,c',rfl,hO1⟩,hb1⟩
  obtain rfl:n = 0:=by
    obtain ⟨p',c2,hv,-⟩:=hO1.has
    simp only [Value.slice.injEq] at hv
    exact hv.2.1
  have kb:=KB.out w1 hb1
  clear KB k hO1
  go_wp2_with fail
  refine kb.mono ?_
  rintro _ w2 ⟨rfl,hL⟩
  go_wp2
  go_ret
  exact ⟨rfl,hL⟩
theorem Log11.other {w0 w w':World} {lb d b:Nat} {S G:Nat→Prop} {M:DM} {L:LogV} (h:Log11 w0 w lb d S G M L) (ht:Turn (fun k=>k = b) w w') (hs:¬ S b) (hg:¬ G b) (hb:w0.heap.size≤b):Log11 w0 w' lb d S G M L :=
  ⟨h.disk.turn ht (fun k hk e=>hs (by rw [← e];exact hk)) (fun k e=>by rw [e];exact hb),(ht.block lb h.box.lt (fun e=>hg (by rw [← e];exact h.gl))).trans h.box,h.sta.stay (Stay.of_turn ht fun k hk e=>hg (by rw [← e];exact hk)) (Stay.of_turn ht fun k hk e=>hg (by rw [← e];exact hk)),h.gl,h.apart,fun k hk=>⟨(h.own k hk).1,Nat.lt_of_lt_of_le (h.own k hk).2 ht.size⟩,h.seg,h.last⟩
theorem Turn.setCells9 {X:World} {b:Nat}:∀ (vs:List Value) (o:Nat) (Y:World),Turn (fun k=>k = b) X Y→Turn (fun k=>k = b) X (Y.setCells b o vs)
  | [],_,_,h=>h
  | v :: r,o,Y,h=>Turn.setCells9 r (o + 1) (Y.setCell ⟨b,o,none⟩ v) (h.setCell (p:=⟨b,o,none⟩) (.inl rfl) v)
structure Opened (w0 w:World) (q lb d:Nat) (M:DM) (W:WM):Prop where
  ex:∃ U,WalAt w0 w q lb d U M W
set_option maxRecDepth 100000 in
set_option maxHeartbeats 1000000 in
theorem openT_none {w0 w:World} {d c:Nat} {S:Nat→Prop} {M:DM} (h:Disk8 w0 w d S M) (h0:Gl11 w0) (hO:M.OkN c) (hc:c + 2 < 1099511627776) (hf:M.off = false) (hs:segs11 M.listT = []) (hn:(⟨#[]⟩:ByteArray) ∉ M.names) (hg:(begin11 M 1).1 = 0) (sg:Int) (hsg:1≤sg∧sg≤1048576) :
    Calls Tryz.prog 32 #[.pointer (some ⟨d,0,none⟩),.int .i64 sg] w fun e w'=>∃ q lb,∃ y:StaV,e = .returned (.tuple #[.pointer (some ⟨q,0,none⟩),.agg y.arr,.int .i64 0])∧Opened w0 w' q lb d (begin11 M 1).2 ⟨sg,1,noTV.s,false⟩:=by
  have hB1:Below w.heap.size w (w.alloc (.cells #[.int .i64 0,.int .i64 0,.int .i64 0,.int .i64 0,.int .i64 0,.slice none 0 0] 82)):=(Below.refl _ w).alloc (Nat.le_refl _) _
  have hbx:=heap_alloc_new w (.cells #[.int .i64 0,.int .i64 0,.int .i64 0,.int .i64 0,.int .i64 0,.slice none 0 0] 82)
  have kr:=readyP_any (h.below hB1).at8 hO.inv hn
  have e0:readyP M = 0:=by unfold readyP;rw [hf];rfl
  rw [e0] at kr
  have KO:Hid (∀ w2,Below w.heap.size w w2→Calls Tryz.prog 89 #[.pointer (some ⟨w2.heap.size,0,none⟩)] (w2.alloc (.cells #[.pointer (some ⟨d,0,none⟩),.int .i64 sg,.int .i64 0,.int .i64 0,.int .i64 0,.int .i64 0,.int .i64 0,.slice none 0 0,.int .i64 0,.bool false] 145)) fun e w'=>e = .returned (.int .i64 0)∧LogS w0 (w2.alloc (.cells #[.pointer (some ⟨d,0,none⟩),.int .i64 sg,.int .i64 0,.int .i64 0,.int .i64 0,.int .i64 0,.int .i64 0,.slice none 0 0,.int .i64 0,.bool false] 145)) w' w2.heap.size d S (fun k=>k = w2.heap.size) (begin11 M 1).2 ⟨sg,1,noTV,false⟩):=fun w2 hb=>by
    have hb3:Below w2.heap.size w2 (w2.alloc (.cells #[.pointer (some ⟨d,0,none⟩),.int .i64 sg,.int .i64 0,.int .i64 0,.int .i64 0,.int .i64 0,.int .i64 0,.slice none 0 0,.int .i64 0,.bool false] 145)):=(Below.refl _ w2).alloc (Nat.le_refl _) _
    have hbl:=heap_alloc_new w2 (.cells #[.pointer (some ⟨d,0,none⟩),.int .i64 sg,.int .i64 0,.int .i64 0,.int .i64 0,.int .i64 0,.int .i64 0,.slice none 0 0,.int .i64 0,.bool false] 145)
    have hl:Log11 w0 (w2.alloc (.cells #[.pointer (some ⟨d,0,none⟩),.int .i64 sg,.int .i64 0,.int .i64 0,.int .i64 0,.int .i64 0,.int .i64 0,.slice none 0 0,.int .i64 0,.bool false] 145)) w2.heap.size d S (fun k=>k = w2.heap.size) M ⟨sg,0,noTV,false⟩:=by
      refine ⟨(h.below hb).below hb3,hbl,StaG.nil _ _,rfl,fun k hk hs=>?_,fun k hk=>?_,⟨by show _≤sg;omega,by show sg≤_;omega⟩,.inr rfl⟩
      · have h1:=(h.own k hs).2
        have h2:=hb.size
        have h3:k = w2.heap.size:=hk
        omega
      · have h1:=h.bel.size
        have h2:=hb.size
        have h3:k = w2.heap.size:=hk
        rw [World.size_alloc]
        omega
    have k:=openL_none hl h0 hO hc hs
    unfold LogV.begun at k
    rw [hg,if_pos rfl] at k
    exact k
  have HO:Hid (w0.heap.size≤w.heap.size∧∀ k,S k→w0.heap.size≤k∧k < w.heap.size):=⟨h.bel.size,h.own⟩
  have HB1:Hid (Below w.heap.size w (w.alloc (.cells #[.int .i64 0,.int .i64 0,.int .i64 0,.int .i64 0,.int .i64 0,.slice none 0 0] 82))):=hB1
  have HBX:Hid ((w.alloc (.cells #[.int .i64 0,.int .i64 0,.int .i64 0,.int .i64 0,.int .i64 0,.slice none 0 0] 82)).heap[w.heap.size]? = some (.cells #[.int .i64 0,.int .i64 0,.int .i64 0,.int .i64 0,.int .i64 0,.slice none 0 0] 82 (0,0))):=hbx
  obtain ⟨hsg1,hsg2⟩:=hsg
  clear h h0 hO hf hs hn hg hB1 hbx e0
  generalize (begin11 M 1).2 = M1 at *
  go_enter Tryz.func32,Tryz.ntmps32
  go_wp2_with fail
  refine kr.mono ?_
  rintro _ w2 ⟨rfl,hb2⟩
  have HB2:Hid (Below w.heap.size w w2):=HB1.out.trans (hb2.mono HB1.out.size)
  have HBX2:Hid (w2.heap[w.heap.size]? = some (.cells #[.int .i64 0,.int .i64 0,.int .i64 0,.int .i64 0,.int .i64 0,.slice none 0 0] 82 (0,0))):=box_below HBX.out hb2
  have ko:=KO.out w2 HB2.out
  clear kr KO HBX hb2
  go_wp2_with fail
  refine ko.mono ?_
  rintro _ w4 ⟨rfl,hL4⟩
  obtain ⟨S',g1,g2,g3⟩:=hL4.ex
  have hlb4:=g1.box.lt
  have hb3:Below w.heap.size w (w2.alloc (.cells #[.pointer (some ⟨d,0,none⟩),.int .i64 sg,.int .i64 0,.int .i64 0,.int .i64 0,.int .i64 0,.int .i64 0,.slice none 0 0,.int .i64 0,.bool false] 145)):=HB2.out.alloc HB2.out.size _
  have hb4:Below w2.heap.size w2 (w2.alloc (.cells #[.pointer (some ⟨d,0,none⟩),.int .i64 sg,.int .i64 0,.int .i64 0,.int .i64 0,.int .i64 0,.int .i64 0,.slice none 0 0,.int .i64 0,.bool false] 145)):=(Below.refl _ w2).alloc (Nat.le_refl _) _
  have HS:Hid (¬ S w.heap.size∧¬ S' w.heap.size∧¬ w.heap.size = w2.heap.size):=by
    have h1:=box_lt HBX2.out
    have h2:¬ S w.heap.size:=fun hs=>Nat.lt_irrefl _ (HO.out.2 _ hs).2
    refine ⟨h2,fun hs=>?_,by omega⟩
    rcases g3 _ hs with h | h
    · exact h2 h
    · rw [World.size_alloc] at h
      omega
  have HBX4:Hid (w4.heap[w.heap.size]? = some (.cells #[.int .i64 0,.int .i64 0,.int .i64 0,.int .i64 0,.int .i64 0,.slice none 0 0] 82 (0,0))):=by
    have h1:=box_below HBX2.out hb4
    exact (g2.block _ (box_lt h1) (fun h=>h.elim HS.out.1 HS.out.2.2)).trans h1
  have hb5:Below w4.heap.size w4 (w4.alloc (.cells #[.pointer (some ⟨w2.heap.size,0,none⟩)] 74)):=(Below.refl _ w4).alloc (Nat.le_refl _) _
  have hq5:=heap_alloc_new w4 (.cells #[.pointer (some ⟨w2.heap.size,0,none⟩)] 74)
  have g5:=g1.below hb5
  have hld5:(ldT (.pointer (some ⟨w2.heap.size,2,none⟩))).run Tryz.prog (w4.alloc (.cells #[.pointer (some ⟨w2.heap.size,0,none⟩)] 74)) = .ok (.agg noTV.arr) (w4.alloc (.cells #[.pointer (some ⟨w2.heap.size,0,none⟩)] 74)):=g5.box.ldT
  have kc:=copyS_any (w4.alloc (.cells #[.pointer (some ⟨w2.heap.size,0,none⟩)] 74)) noTV g5.sta.row.has (by intro e he;cases he) (by decide)
  have HG5:Hid (Log11 w0 (w4.alloc (.cells #[.pointer (some ⟨w2.heap.size,0,none⟩)] 74)) w2.heap.size d S' (fun k=>k = w2.heap.size) M1 ⟨sg,1,noTV,false⟩):=g5
  have HQ5:Hid ((w4.alloc (.cells #[.pointer (some ⟨w2.heap.size,0,none⟩)] 74)).heap[w4.heap.size]? = some (.cells #[.pointer (some ⟨w2.heap.size,0,none⟩)] 74 (0,0))):=hq5
  have HBX5:Hid ((w4.alloc (.cells #[.pointer (some ⟨w2.heap.size,0,none⟩)] 74)).heap[w.heap.size]? = some (.cells #[.int .i64 0,.int .i64 0,.int .i64 0,.int .i64 0,.int .i64 0,.slice none 0 0] 82 (0,0))):=box_below HBX4.out hb5
  have HN:Hid (∀ k,S' k∨k = w2.heap.size→w0.heap.size≤k∧k < w4.heap.size):=fun k hk=>hk.elim (fun h=>g1.disk.own k h) (fun h=>g1.own k h)
  have HLT:Hid (w.heap.size < w4.heap.size):=box_lt HBX4.out
  clear ko hL4 g1 g2 g3 hb3 hb4 hb5 hq5 g5 HBX2 HBX4 HB1 HB2
  go_wp2_with fail
  refine kc.mono ?_
  rintro _ w6 ⟨y,rfl,hy,hOy,hb6⟩
  have hbx6:=box_below HBX5.out hb6
  have hth:=there_box hbx6 0 6 (Nat.le_refl _)
  have hst:=stT_arr 0 y hth
  have hF:=setT_box y hbx6 rfl
  have hl6:=box_lt hbx6
  have HT:Hid (Turn (fun k=>k = w.heap.size) w6 (w6.setCells w.heap.size 0 y.arr.toList)):=Turn.setCells9 _ _ _ (Turn.refl _ _)
  have HG7:Hid (Log11 w0 (w6.setCells w.heap.size 0 y.arr.toList) w2.heap.size d S' (fun k=>k = w2.heap.size) M1 ⟨sg,1,noTV,false⟩):=(HG5.out.below hb6).other HT.out HS.out.2.1 HS.out.2.2 HO.out.1
  have hQ6:=box_below HQ5.out hb6
  have HQ7:Hid ((w6.setCells w.heap.size 0 y.arr.toList).heap[w4.heap.size]? = some (.cells #[.pointer (some ⟨w2.heap.size,0,none⟩)] 74 (0,0))):=(HT.out.block _ (box_lt hQ6) (fun e=>by have:=HLT.out;omega)).trans hQ6
  clear kc hld5 hQ6
  go_wp2
  have hW:WalAt w0 (w6.setCells w.heap.size 0 y.arr.toList) w4.heap.size w2.heap.size d (fun k=>S' k∨k = w2.heap.size) M1 ⟨sg,1,noTV.s,false⟩ :=
    ⟨⟨S',fun k=>k = w2.heap.size,noTV,HG7.out,rfl,Turn.refl _ _,fun k hk=>.inl hk⟩,HQ7.out,fun hk=>Nat.lt_irrefl _ (HN.out _ hk).2,.inr rfl,fun k hk=>⟨(HN.out k hk).1,Nat.lt_trans (HN.out k hk).2 (box_lt HQ7.out)⟩,Nat.le_trans HO.out.1 (Nat.le_of_lt HLT.out)⟩
  refine bodyPost_ret (ret_tct11 rfl _ _ w.heap.size _ _ _ _ rfl hF Tryz.underlying82 rfl (by kernel_rfl)) rfl ⟨_,_,y,rfl,⟨_,hW⟩⟩
def noopV (i t:Int):EntV:=⟨i,t,1,zeroC9,noFV⟩
def lM0:DM:=(begin11 (DM.empty 5000) 1).2
def lW0:WM:=⟨100,1,noTV.s,false⟩
def lH:Hard10:=⟨1,0,0⟩
def lR1:Nat × WM × DM:=saveP lM0 lW0 (recs11 lH lW0.s ([noopV 1 1,noopV 2 1].map EntV.e))
def lM1:DM:=lR1.2.2
def lW1:WM:=lR1.2.1.did lR1.1
def lR2:Nat × WM × DM:=saveP lM1 lW1 (recs11 lH lW1.s ([noopV 2 2].map EntV.e))
def lM2:DM:=lR2.2.2
def lW2:WM:=lR2.2.1.did lR2.1
def lR3:Nat × WM × DM:=compactP lM2 lW2 1 1
def lM3:DM:=lR3.2.2
def lW3:WM:=lR3.2.1.did lR3.1
set_option maxRecDepth 100000 in
theorem l_errs:(begin11 (DM.empty 5000) 1).1 = 0∧lR1.1 = 0∧lR2.1 = 0∧lR3.1 = 0:=by decide +kernel
set_option maxRecDepth 100000 in
theorem l_off:lM0.off = false∧lM1.off = false∧lM2.off = false∧lM3.off = false:=by decide +kernel
set_option maxRecDepth 100000 in
theorem l_dead:lW0.dead = false∧lW1.dead = false∧lW2.dead = false∧lW3.dead = false:=by decide +kernel
set_option maxRecDepth 100000 in
theorem l_n:lW0.n = 1∧lW1.n = 1∧lW2.n = 1∧lW3.n = 2:=by decide +kernel
set_option maxRecDepth 100000 in
theorem l_len:lW0.s.es.length = 0∧lW1.s.es.length = 2∧lW2.s.es.length = 2∧lW3.s.es.length = 1:=by decide +kernel
set_option maxRecDepth 100000 in
theorem l_good1:∀ r ∈ recs11 lH lW0.s ([noopV 1 1,noopV 2 1].map EntV.e),goodR11 r = true:=by decide +kernel
set_option maxRecDepth 100000 in
theorem l_good2:∀ r ∈ recs11 lH lW1.s ([noopV 2 2].map EntV.e),goodR11 r = true:=by decide +kernel
set_option maxRecDepth 100000 in
theorem l_good3:goodR11 (recBs 1 1) = true∧(pfold11 lW2.s (recBs 1 1)).2 = true:=by decide +kernel
set_option maxRecDepth 100000 in
theorem l_segs:(segs11 lM3.listT).length = 1∧segs11 (DM.empty 5000).listT = []:=by decide +kernel
theorem l_es2:lW2.s.es = [(noopV 1 1).e,(noopV 2 2).e]:=by rfl
theorem l_i3:lW3.s.i = 1:=by decide +kernel
theorem few_noop (i t:Int):FewF (noopV i t).f.f∧FewC (noopV i t).c:=by
  constructor
  · show FewF ⟨[],[]⟩
    unfold FewF
    decide
  · show FewC zeroC9
    unfold FewC
    decide
set_option maxRecDepth 100000 in
set_option maxHeartbeats 1000000 in
theorem noop_any (w:World) (i t:Int):Calls Tryz.prog 35 #[.int .i64 i,.int .i64 t] w fun e w'=>e = .returned (.agg (noopV i t).arr)∧Below w.heap.size w w':=by
  have hB1:Below w.heap.size w (w.alloc (.cells #[.int .i64 0,.int .i64 0,.int .i64 0,.int .i64 0,.int .i64 0,.int .i64 0,.string ⟨#[]⟩,.string ⟨#[]⟩,.string ⟨#[]⟩,.string ⟨#[]⟩,.int .i64 0,.slice none 0 0,.slice none 0 0] 28)):=(Below.refl _ w).alloc (Nat.le_refl _) _
  have hbx:=heap_alloc_new w (.cells #[.int .i64 0,.int .i64 0,.int .i64 0,.int .i64 0,.int .i64 0,.int .i64 0,.string ⟨#[]⟩,.string ⟨#[]⟩,.string ⟨#[]⟩,.string ⟨#[]⟩,.int .i64 0,.slice none 0 0,.slice none 0 0] 28)
  have hth:=there_box hbx 0 13 (Nat.le_refl _)
  have hst:=stE_arr 0 (noopV i t) hth
  have hF:=setE_box (noopV i t) hbx rfl
  have hB9:=setCells_below (Nat.le_refl w.heap.size) (noopV i t).arr.toList 0 hB1
  unfold noopV EntV.arr zeroC9 noFV nilS10 at *
  dsimp only at *
  go_enter Tryz.func35,Tryz.ntmps35
  go_wp2
  refine bodyPost_ret (ret_one rfl _ _ w.heap.size _ _ _ _ rfl hF Tryz.underlying28 rfl (by kernel_rfl)) rfl ⟨rfl,hB9⟩
structure Liv (w0 w:World) (q lb d:Nat) (M:DM) (W:WM) (l:List (Nat × Obj)):Prop where
  ex:∃ U,WalAt w0 w q lb d U M W∧∀ p ∈ l,¬ U p.1∧w.heap[p.1]? = some p.2
section
variable {w0 w w':World} {q lb d:Nat} {M M':DM} {W W':WM} {l:List (Nat × Obj)}
theorem heap_lt {w:World} {b:Nat} {o:Obj} (h:w.heap[b]? = some o):b < w.heap.size:=by
  rcases Nat.lt_or_ge b w.heap.size with h1 | h1
  · exact h1
  · rw [Array.getElem?_eq_none h1] at h
    cases h
theorem Liv.below (h:Liv w0 w q lb d M W l) (hb:Below w.heap.size w w'):Liv w0 w' q lb d M W l:=by
  obtain ⟨U,h1,h2⟩:=h.ex
  exact ⟨U,h1.below hb,fun p hp=>⟨(h2 p hp).1,(hb.block _ (heap_lt (h2 p hp).2)).trans (h2 p hp).2⟩⟩
theorem Liv.alloc (h:Liv w0 w q lb d M W l) (o:Obj):Liv w0 (w.alloc o) q lb d M W ((w.heap.size,o) :: l):=by
  have hb:Below w.heap.size w (w.alloc o):=(Below.refl _ w).alloc (Nat.le_refl _) _
  obtain ⟨U,h1,h2⟩:=h.ex
  refine ⟨U,h1.below hb,fun p hp=>?_⟩
  rcases List.mem_cons.1 hp with rfl | hp
  · exact ⟨h1.fresh (Nat.le_refl _),heap_alloc_new w o⟩
  · exact ⟨(h2 p hp).1,(hb.block _ (heap_lt (h2 p hp).2)).trans (h2 p hp).2⟩
theorem Liv.bel (h:Liv w0 w q lb d M W l):Below w0.heap.size w0 w:=by
  obtain ⟨U,h1,-⟩:=h.ex
  obtain ⟨S,G,x,g1,-⟩:=h1.log11
  exact g1.bel
theorem Liv.box (h:Liv w0 w q lb d M W l) {b:Nat} {o:Obj} (hm:(b,o) ∈ l):w.heap[b]? = some o:=by
  obtain ⟨U,h1,h2⟩:=h.ex
  exact (h2 _ hm).2
theorem Liv.set (h:Liv w0 w q lb d M W l) {b:Nat} {o o':Obj} (hm:(b,o) ∈ l) (hbq:b ≠ q) (hlo:w0.heap.size≤b) (ht:Turn (fun k=>k = b) w w') (hn:w'.heap[b]? = some o'):Liv w0 w' q lb d M W ((b,o') :: l.filter fun p=>p.1 != b):=by
  obtain ⟨U,h1,h2⟩:=h.ex
  have hub:=(h2 _ hm).1
  obtain ⟨S,G,x,g1,g2,g3⟩:=h1.log11
  refine ⟨U,⟨⟨S,G,x,g1.other ht (fun hs=>hub (g3 _ (.inl hs))) (fun hs=>hub (g3 _ (.inr hs))) hlo,g2,Turn.refl _ _,fun k hk=>.inl (g3 k hk)⟩,(ht.block q h1.box.lt (fun e=>hbq e.symm)).trans h1.box,h1.nq,h1.ul,fun k hk=>⟨(h1.own k hk).1,Nat.lt_of_lt_of_le (h1.own k hk).2 ht.size⟩,h1.lo⟩,fun p hp=>?_⟩
  rcases List.mem_cons.1 hp with rfl | hp
  · exact ⟨hub,hn⟩
  · obtain ⟨hp1,hp2⟩:=List.mem_filter.1 hp
    exact ⟨(h2 p hp1).1,(ht.block _ (heap_lt (h2 p hp1).2) (fun e=>by simp [e] at hp2)).trans (h2 p hp1).2⟩
end
theorem okN_begin {c:Nat} {M:DM} (h:M.OkN c) (n:Int):(begin11 M n).2.OkN (c + 2):=by
  unfold begin11
  split
  · exact (h.create _).mono (by omega)
  · exact (h.create _).syncs
theorem okN_drop (n:Int):∀ (l:List Int) {c:Nat} {M:DM},M.OkN c→(drop11 n M l).2.OkN (c + l.length)
  | [],_,_,h=>h
  | a :: l,c,M,h=>by
    unfold drop11
    split
    · exact (okN_drop n l h).mono (by simp only [List.length_cons];omega)
    · split
      · exact (h.remove _).mono (by simp only [List.length_cons];omega)
      · exact (okN_drop n l (h.remove _)).mono (by simp only [List.length_cons];omega)
theorem bytesP_isB (base:Int):∀ (l:List Rec11) (last:Int) (bs:List Int),bytesP base last l = some bs→isB8 bs
  | [],_,bs,h=>by
    rw [show bytesP base _ [] = some [] from rfl,Option.some.injEq] at h
    subst h
    intro b hb
    cases hb
  | r :: l,last,bs,h=>by
    rw [bytesP_cons] at h
    split at h
    · rw [Option.map_eq_some_iff] at h
      obtain ⟨b2,h2,rfl⟩:=h
      have h3:=bytesP_isB base l _ b2 h2
      intro b hb
      rcases List.mem_append.1 hb with hb | hb
      · exact isB_of8 (recB_isB11 r) b hb
      · exact h3 b hb
    · cases h
theorem okN_nextQ {c:Nat} {M:DM} (h:M.OkN c) (W:WM):(nextQ M W).2.2.OkN (c + 2):=by
  unfold nextQ
  split
  · exact h.mono (by omega)
  · split
    · exact h.mono (by omega)
    · exact okN_begin h _
theorem okN_save {c:Nat} {M:DM} (h:M.OkN c) (W:WM) (rs:List Rec11):(saveP M W rs).2.2.OkN (c + 4):=by
  unfold saveP
  split
  · exact h.mono (by omega)
  · rename_i bs hbs
    have hb:=bytesP_isB _ _ _ _ hbs
    split
    · exact h.mono (by omega)
    · split
      · exact (h.append _ hb).mono (by omega)
      · split
        · exact (h.append _ hb).syncs.mono (by omega)
        · exact okN_nextQ (h.append _ hb).syncs _
theorem l_ok0:lM0.OkN 2:=okN_begin (okN_empty 5000 (by decide)) 1
theorem l_ok1:lM1.OkN 6:=okN_save l_ok0 _ _
theorem l_ok2:lM2.OkN 10:=okN_save l_ok1 _ _
theorem l_inv3:lM3.Inv:=by
  have h:∃ c,lM3.OkN c:=by
    unfold lM3 lR3 compactP
    split
    · exact ⟨10,l_ok2⟩
    · split
      · exact ⟨_,okN_rput l_ok2 (isB_of8 (allB_isB _)) _⟩
      · exact ⟨_,okN_drop _ _ (okN_rput l_ok2 (isB_of8 (allB_isB _)) _)⟩
  obtain ⟨c,h⟩:=h
  exact h.inv
theorem fewS_of {es:List EntV} {s:Sta11} (h:s.es = es.map EntV.e) (hf:FewL es):FewS s:=fun e he=>by
  rw [h] at he
  obtain ⟨e2,he2,rfl⟩:=List.mem_map.1 he
  exact hf e2 he2
theorem fewL_noop:∀ (l:List (Int × Int)),FewL (l.map fun p=>noopV p.1 p.2):=fun l e he=>by
  obtain ⟨p,-,rfl⟩:=List.mem_map.1 he
  exact few_noop p.1 p.2
theorem l_es3:lW3.s.es = [noopV 2 2].map EntV.e:=by kernel_rfl
theorem in1w:inI 1:=by unfold inI;decide
section
variable {w0 w w':World} {q lb d:Nat} {l:List (Nat × Obj)}
theorem Liv.turned {U:Nat→Prop} {M M':DM} {W W':WM} (h1:WalAt w0 w q lb d U M W) (h2:∀ p ∈ l,¬ U p.1∧w.heap[p.1]? = some p.2) (hL:LogU w0 w w' lb d U M' W'):Liv w0 w' q lb d M' W' l:=by
  refine ⟨_,h1.next hL,fun p hp=>⟨fun hk=>?_,(hL.turn.block _ (heap_lt (h2 p hp).2) (h2 p hp).1).trans (h2 p hp).2⟩⟩
  rcases hk with hk | ⟨hk,-⟩
  · exact (h2 p hp).1 hk
  · have:=heap_lt (h2 p hp).2
    omega
theorem Liv.save1 (h:Liv w0 w q lb d lM0 lW0 l) (h0:Gl11 w0) (s:Sl10) (hE:HasE w s [noopV 1 1,noopV 2 1]) :
    Calls Tryz.prog 27 #[.pointer (some ⟨q,0,none⟩),.agg lH.arr,.slice s.p s.n s.c] w fun e w'=>e = .returned (.int .i64 0)∧Liv w0 w' q lb d lM1 lW1 l:=by
  obtain ⟨U,h1,h2⟩:=id h.ex
  have k:=saveT_any h1 h0 l_ok0 (by decide) l_dead.1 l_off.1 (by rw [l_n.1];decide) (by rw [l_len.1];decide) lH ⟨in1w,in0,in0⟩ s _ hE (fewL_noop [(1,1),(2,1)]) (by decide) l_good1
  refine k.mono fun e w' he=>⟨he.1.trans ?_,Liv.turned h1 h2 he.2⟩
  rw [show (saveP lM0 lW0 (recs11 lH lW0.s ([noopV 1 1,noopV 2 1].map EntV.e))).1 = 0 from l_errs.2.1]
  rfl
theorem Liv.save2 (h:Liv w0 w q lb d lM1 lW1 l) (h0:Gl11 w0) (s:Sl10) (hE:HasE w s [noopV 2 2]) :
    Calls Tryz.prog 27 #[.pointer (some ⟨q,0,none⟩),.agg lH.arr,.slice s.p s.n s.c] w fun e w'=>e = .returned (.int .i64 0)∧Liv w0 w' q lb d lM2 lW2 l:=by
  obtain ⟨U,h1,h2⟩:=id h.ex
  have k:=saveT_any h1 h0 l_ok1 (by decide) l_dead.2.1 l_off.2.1 (by rw [l_n.2.1];decide) (by rw [l_len.2.1];decide) lH ⟨in1w,in0,in0⟩ s _ hE (fewL_noop [(2,2)]) (by decide) l_good2
  refine k.mono fun e w' he=>⟨he.1.trans ?_,Liv.turned h1 h2 he.2⟩
  rw [show (saveP lM1 lW1 (recs11 lH lW1.s ([noopV 2 2].map EntV.e))).1 = 0 from l_errs.2.2.1]
  rfl
theorem Liv.compact (h:Liv w0 w q lb d lM2 lW2 l) (h0:Gl11 w0) :
    Calls Tryz.prog 28 #[.pointer (some ⟨q,0,none⟩),.int .i64 1,.int .i64 1] w fun e w'=>e = .returned (.int .i64 0)∧Liv w0 w' q lb d lM3 lW3 l:=by
  obtain ⟨U,h1,h2⟩:=id h.ex
  have k:=compactT_any h1 h0 l_ok2 (by decide) l_dead.2.2.1 l_off.2.2.1 (by rw [l_n.2.2.1];decide) (by rw [l_len.2.2.1];decide) (fewS_of (es:=[noopV 1 1,noopV 2 2]) l_es2 (fewL_noop [(1,1),(2,2)])) 1 1 in1w in1w l_good3.1 l_good3.2 (by rw [l_n.2.2.1];decide)
  refine k.mono fun e w' he=>⟨he.1.trans ?_,Liv.turned h1 h2 he.2⟩
  rw [show (compactP lM2 lW2 1 1).1 = 0 from l_errs.2.2.2]
  rfl
theorem Liv.state2 (h:Liv w0 w q lb d lM2 lW2 l) :
    Calls Tryz.prog 31 #[.pointer (some ⟨q,0,none⟩)] w fun e w'=>∃ y:StaV,e = .returned (.agg y.arr)∧y.s = lW2.s∧OwnsEs w' (w.heap.size + 1) y.w y.es∧Below w.heap.size w w':=by
  obtain ⟨U,h1,h2⟩:=h.ex
  exact stateT_any h1 (by rw [l_len.2.2.1];decide) (fewS_of (es:=[noopV 1 1,noopV 2 2]) l_es2 (fewL_noop [(1,1),(2,2)]))
theorem Liv.state3 (h:Liv w0 w q lb d lM3 lW3 l) :
    Calls Tryz.prog 31 #[.pointer (some ⟨q,0,none⟩)] w fun e w'=>∃ y:StaV,e = .returned (.agg y.arr)∧y.s = lW3.s∧OwnsEs w' (w.heap.size + 1) y.w y.es∧Below w.heap.size w w':=by
  obtain ⟨U,h1,h2⟩:=h.ex
  exact stateT_any h1 (by rw [l_len.2.2.2];decide) (fewS_of l_es3 (fewL_noop [(2,2)]))
theorem Liv.segs3 (h:Liv w0 w q lb d lM3 lW3 l) (h0:Gl11 w0) :
    Calls Tryz.prog 29 #[.pointer (some ⟨q,0,none⟩)] w fun e w'=>(∃ p c,e = .returned (.slice p 1 c))∧Below w.heap.size w w':=by
  obtain ⟨U,h1,h2⟩:=h.ex
  refine (segmentsT_any h1 h0 l_inv3).mono fun e w' he=>⟨?_,he.2⟩
  obtain ⟨p,n,c,rfl,hO⟩:=he.1
  obtain ⟨p',c',hv,-⟩:=hO.has
  simp only [Value.slice.injEq] at hv
  refine ⟨p,c,?_⟩
  rw [hv.2.1,l_segs.1]
theorem Liv.opened (W:World) (h0:Gl11 W) {w2:World} {S:Nat→Prop} {d:Nat} (h:Disk8 W w2 d S (DM.empty 5000)):Calls Tryz.prog 32 #[.pointer (some ⟨d,0,none⟩),.int .i64 100] w2 fun e w'=>∃ q lb,∃ y:StaV,e = .returned (.tuple #[.pointer (some ⟨q,0,none⟩),.agg y.arr,.int .i64 0])∧Liv W w' q lb d lM0 lW0 []:=by
  refine (openT_none h h0 (okN_empty 5000 (by decide)) (by decide) rfl l_segs.2 (by show _ ∉ ([]:List ByteArray);simp) l_errs.1 100 (by decide)).mono ?_
  rintro e w' ⟨q,lb,y,rfl,hO⟩
  obtain ⟨U,hU⟩:=hO.ex
  exact ⟨q,lb,y,rfl,⟨U,hU,fun p hp=>by cases hp⟩⟩
end
end Go.Proofs.YtkbbhllchombdaaGreatDoor

namespace Go.Proofs.YtkbbhllchombdaaGreatDoor
open Go.RowKit Go.Shelf Go.Maps
attribute [local go_sem ↓] ldE_exec stE_exec ldE_execI stE_execI ldE_run ldE_box stE_box ldC_exec stC_exec ldC_execI stC_execI ldC_run ldW_exec stW_exec ldW_execI stW_execI ldW_box stW_box ldR_exec stR_exec ldR_execI stR_execI ldR_box stR_box ldT_exec stT_exec ldT_execI stT_execI ldT_box ldU_exec stU_exec ldU_execI stU_execI ldH_exec stH_exec ldH_execI stH_execI ldH_run ldH_box stH_box oc_int oc_bool oc_string oc_slice oc_pointer
attribute [local go_sem ↓] bsE_exec bsE_execI bsE_run bsW_exec bsW_execI bsW_run bdE_exec bdE_execI bdE_run bdH_exec bdH_execI bdH_run bdB_exec bdB_execI bdB_run
def bsE2 (x y:Value):Sem Value:=Instr.buildSlice 66 2 #[(0,x),(1,y)]
theorem bsE2_exec (ρ:Operand→Value) (d:Option Tmp) (x y:Operand) (t:TypeId) (p:String) (af:Array Edge) (g:Option (Nat × Bool)) (w:World):(execOp ρ { dst:=d,op:=.buildSlice 66 2 #[(0,x),(1,y)],type:=t,pos:=p,after:=af,guard:=g }).run Tryz.prog w = ((bsE2 (ρ x) (ρ y)).run Tryz.prog w).andThen fun v w'=>.ok (.value v) w':=by
  unfold execOp bsE2
  simp only [Sem.run_bind,Sem.run_pure,List.map_toArray,List.map_cons,List.map_nil]
theorem bsE2_execI (ro:Option Nat) (ρ:Operand→Value) (d:Option Tmp) (x y:Operand) (t:TypeId) (p:String) (af:Array Edge) (g:Option (Nat × Bool)) (w:World):(Oper.semAt ro ρ { dst:=d,op:=.buildSlice 66 2 #[(0,x),(1,y)],type:=t,pos:=p,after:=af,guard:=g }).run Tryz.prog w = ((bsE2 (ρ x) (ρ y)).run Tryz.prog w).andThen fun v w'=>.ok (.value v) w':=by
  rw [Oper.semAt_eq _ _ _ (by intro c h;cases h)]
  exact bsE2_exec ρ d x y t p af g w
set_option maxRecDepth 100000 in
theorem bsE2_run (w:World) (y z:EntV):(bsE2 (.agg y.arr) (.agg z.arr)).run Tryz.prog w = .ok (.slice (some ⟨w.heap.size,0,none⟩) 2 2) (w.alloc (.cells (y.arr++z.arr) 28)):=by
  obtain ⟨xi,xt,xk,⟨ck,cs,cq,ckey,cold,cval,cunt,clim⟩,⟨⟨p1,n1,c1⟩,⟨q1,m1,d1⟩,f1⟩⟩:=y
  obtain ⟨yi,yt,yk,⟨dk,ds,dq,dkey,dold,dval,dunt,dlim⟩,⟨⟨p2,n2,c2⟩,⟨q2,m2,d2⟩,f2⟩⟩:=z
  unfold bsE2 EntV.arr
  go_simp
theorem in2w:inI 2:=by unfold inI;decide
theorem fits_noop (w:World) {i t:Int} (hi:inI i) (ht:inI t):FitsE w (noopV i t):=⟨hi,ht,in1w,fits_zeroC,FitsF.nil w⟩
theorem eArr_size (x:EntV):x.arr.size = 13:=rfl
theorem hasE_one (w:World) (x:EntV) (hx:FitsE w x):HasE (w.alloc (.cells x.arr 28)) ⟨some ⟨w.heap.size,0,none⟩,1,1⟩ [x]:=by
  have hb:Below w.heap.size w (w.alloc (.cells x.arr 28)):=(Below.refl _ w).alloc (Nat.le_refl _) _
  refine ⟨rfl,Nat.le_refl _,(fun h=>by cases h),fun _=>⟨w.heap.size,0,rfl,by simp,fun i hi j hj=>?_⟩,fun e he=>?_⟩
  · have hi0:i = 0:=by have:i < 1:=hi;omega
    subst hi0
    rw [box_cell (heap_alloc_new w _)]
    show x.arr[0 + 0 * 13 + j]? = x.arr[j]?
    rw [Nat.zero_mul,Nat.zero_add]
  · rw [List.mem_singleton.1 he]
    exact hx.below hb
theorem hasE_two (w:World) (x y:EntV) (hx:FitsE w x) (hy:FitsE w y):HasE (w.alloc (.cells (x.arr++y.arr) 28)) ⟨some ⟨w.heap.size,0,none⟩,2,2⟩ [x,y]:=by
  have hb:Below w.heap.size w (w.alloc (.cells (x.arr++y.arr) 28)):=(Below.refl _ w).alloc (Nat.le_refl _) _
  refine ⟨rfl,Nat.le_refl _,(fun h=>by cases h),fun _=>⟨w.heap.size,0,rfl,by simp,fun i hi j hj=>?_⟩,fun e he=>?_⟩
  · rw [box_cell (heap_alloc_new w _)]
    have hi2:i = 0∨i = 1:=by have:i < 2:=hi;omega
    rcases hi2 with rfl | rfl
    · show (x.arr++y.arr)[0 + 0 * 13 + j]? = x.arr[j]?
      rw [Nat.zero_mul,Nat.zero_add,Array.getElem?_append_left (by rw [eArr_size];exact hj)]
    · show (x.arr++y.arr)[0 + 1 * 13 + j]? = y.arr[j]?
      rw [Nat.one_mul,Nat.zero_add,Array.getElem?_append_right (by rw [eArr_size];omega),eArr_size,Nat.add_sub_cancel_left]
  · rcases List.mem_cons.1 he with rfl | he
    · exact hx.below hb
    · rw [List.mem_singleton.1 he]
      exact hy.below hb
theorem Liv.add {w0 w w':World} {q lb d b:Nat} {M:DM} {W:WM} {l:List (Nat × Obj)} {o:Obj} (h:Liv w0 w q lb d M W l) (hb:Below w.heap.size w w') (hn:w'.heap[b]? = some o) (hlt:w.heap.size≤b):Liv w0 w' q lb d M W ((b,o) :: l):=by
  obtain ⟨U,h1,h2⟩:=h.ex
  refine ⟨U,h1.below hb,fun p hp=>?_⟩
  rcases List.mem_cons.1 hp with rfl | hp
  · exact ⟨h1.fresh hlt,hn⟩
  · exact ⟨(h2 p hp).1,(hb.block _ (heap_lt (h2 p hp).2)).trans (h2 p hp).2⟩
theorem Liv.lt {w0 w:World} {q lb d:Nat} {M:DM} {W:WM} {l:List (Nat × Obj)} (h:Liv w0 w q lb d M W l):q < w.heap.size:=by
  obtain ⟨U,h1,-⟩:=h.ex
  exact h1.box.lt
theorem Liv.ldH {w0 w:World} {q lb d b:Nat} {M:DM} {W:WM} {l:List (Nat × Obj)} (h:Liv w0 w q lb d M W l) (hm:(b,Obj.cells lH.arr 30 (0,0)) ∈ l):(ldH (.pointer (some ⟨b,0,none⟩))).run Tryz.prog w = .ok (.agg lH.arr) w:=ldH_box w _ _ _ _ (h.box hm) rfl
attribute [local go_sem ↓] bsE2_exec bsE2_execI bsE2_run
set_option maxRecDepth 100000 in
set_option maxHeartbeats 2000000 in
theorem livesW_any (W:World) (h0:Gl11 W):Calls Tryz.prog 9 #[] W fun e w'=>e = .returned (.bool true)∧Below W.heap.size W w':=by
  have kn:=new_good 5000 W (by decide)
  have hmix:Tryz.prog.follows Departure.mixedOrders = true:=by kernel_rfl
  have HG:Hid (Gl11 W):=h0
  clear h0
  go_enter Tryz.func9,Tryz.ntmps9
  go_upto_region 2 with (first
    | (go_at_call 22;refine kn.mono ?_;rintro _ w1 ⟨rfl,hd1,hb1⟩;have ko:=Liv.opened W HG.out (w2:=w1) ⟨hd1,fun k hk=>hk,hb1⟩)
    | (go_at_call 32;refine ko.mono ?_;rintro _ w2 ⟨q,lb,y,rfl,hL2⟩;have hL3:=hL2.alloc (.cells #[.int .i64 0,.int .i64 0,.int .i64 0,.int .i64 0,.int .i64 0,.slice none 0 0] 82);have hth:=there_box (hL3.box (List.mem_cons_self ..)) 0 6 (Nat.le_refl _);have hst:=stT_arr 0 y hth))
  have hX:=hL2.below (setCells_below (Nat.le_refl w2.heap.size) y.arr.toList 0 ((Below.refl _ w2).alloc (Nat.le_refl _) (.cells #[.int .i64 0,.int .i64 0,.int .i64 0,.int .i64 0,.int .i64 0,.slice none 0 0] 82)))
  clear kn hd1 hb1 ko hL2 hL3 hth hst
  generalize (w2.alloc (.cells #[.int .i64 0,.int .i64 0,.int .i64 0,.int .i64 0,.int .i64 0,.slice none 0 0] 82)).setCells w2.heap.size 0 y.arr.toList = X at *
  have hbH:=heap_alloc_new X (.cells #[.int .i64 0,.int .i64 0,.int .i64 0] 30)
  have hthH:=there_box hbH 0 3 (Nat.le_refl _)
  have hstH:=stH_arr 0 lH hthH
  have hbY:((X.alloc (.cells #[.int .i64 0,.int .i64 0,.int .i64 0] 30)).setCells X.heap.size 0 lH.arr.toList).heap[X.heap.size]? = some (.cells lH.arr 30 (0,0)):=setCells_box hbH 0 _ _ (Nat.le_refl _) rfl
  have hY:=hX.add (setCells_below (Nat.le_refl X.heap.size) lH.arr.toList 0 ((Below.refl _ X).alloc (Nat.le_refl _) (.cells #[.int .i64 0,.int .i64 0,.int .i64 0] 30))) hbY (Nat.le_refl _)
  clear hX hbH hbY
  unfold lH Hard10.arr at hstH
  dsimp only at hstH
  go_upto_region 3 with fail
  replace hY:Liv W ((X.alloc (.cells #[.int .i64 0,.int .i64 0,.int .i64 0] 30)).setCells X.heap.size 0 [.int .i64 1,.int .i64 0,.int .i64 0]) q lb (W.heap.size + 1) lM0 lW0 [(X.heap.size,.cells lH.arr 30 (0,0))]:=hY
  clear hthH hstH
  generalize (X.alloc (.cells #[.int .i64 0,.int .i64 0,.int .i64 0] 30)).setCells X.heap.size 0 [.int .i64 1,.int .i64 0,.int .i64 0] = Y at *
  have hbl:X.heap.size < Y.heap.size:=heap_lt (hY.box (List.mem_cons_self ..))
  generalize X.heap.size = hb at *
  generalize W.heap.size + 1 = d at *
  have hD:=hY.below (on_drew (Below.refl Y.heap.size Y))
  have s0:=hD.ldH (List.mem_cons_self ..)
  clear hY
  go_region_held3 (fun w'=>(ldH (.pointer (some ⟨hb,0,none⟩))).run Tryz.prog w' = .ok (.agg lH.arr) w')
    (first | (with_reducible exact s0) | (with_reducible assumption))
    (first
      | (go_at_call 35;(refine (noop_any _ 1 1).mono ?_);rintro _ n1 ⟨rfl,hn1⟩;have hL4:=hD.below hn1;have s1:=hL4.ldH (List.mem_cons_self ..))
      | (go_at_call 35;(refine (noop_any _ 2 1).mono ?_);rintro _ n2 ⟨rfl,hn2⟩;have hL5:=hL4.below hn2;have s2:=hL5.ldH (List.mem_cons_self ..);have hL6:=hL5.below ((Below.refl _ n2).alloc (Nat.le_refl _) (.cells ((noopV 1 1).arr++(noopV 2 1).arr) 28));have s3:=hL6.ldH (List.mem_cons_self ..);have k1:=hL6.save1 HG.out ⟨some ⟨n2.heap.size,0,none⟩,2,2⟩ (hasE_two n2 _ _ (fits_noop _ in1w in1w) (fits_noop _ in2w in1w));dsimp only at k1)
      | (go_at_call 27;(with_reducible refine Calls.mono k1 ?_);rintro _ v1 ⟨rfl,hL7⟩;have s4:=hL7.ldH (List.mem_cons_self ..))
      | (go_at_call 35;(refine (noop_any _ 2 2).mono ?_);rintro _ n3 ⟨rfl,hn3⟩;have hL8:=hL7.below hn3;have s5:=hL8.ldH (List.mem_cons_self ..);have hL9:=hL8.below ((Below.refl _ n3).alloc (Nat.le_refl _) (.cells (noopV 2 2).arr 28));have s6:=hL9.ldH (List.mem_cons_self ..);have k2:=hL9.save2 HG.out ⟨some ⟨n3.heap.size,0,none⟩,1,1⟩ (hasE_one n3 _ (fits_noop _ in2w in2w));dsimp only at k2)
      | (go_at_call 27;(with_reducible refine Calls.mono k2 ?_);rintro _ v2 ⟨rfl,hLA⟩;have s7:=hLA.ldH (List.mem_cons_self ..)))
  clear s0 s1 s2 s3 s4 s5 s6 s7 hD hL4 hL5 hL6 hL7 hL8 hL9 k1 k2 hn1 hn2 hn3 hbl
  have kS:=hLA.state2
  go_wp2_with fail
  refine kS.mono ?_
  rintro _ a1 ⟨y2,rfl,hy2,hO2,hb1⟩
  have hLB:=hLA.below hb1
  have hbT:=heap_alloc_new a1 (.cells #[.int .i64 0,.int .i64 0,.int .i64 0,.int .i64 0,.int .i64 0,.slice none 0 0] 82)
  have hthT:=there_box hbT 0 6 (Nat.le_refl _)
  have hstT:=stT_arr 0 y2 hthT
  have hbT2:=setT_box y2 hbT rfl
  have hbe:Below a1.heap.size a1 ((a1.alloc (.cells #[.int .i64 0,.int .i64 0,.int .i64 0,.int .i64 0,.int .i64 0,.slice none 0 0] 82)).setCells a1.heap.size 0 y2.arr.toList):=setCells_below (Nat.le_refl _) _ _ ((Below.refl _ a1).alloc (Nat.le_refl _) _)
  have hLC:=hLB.add hbe hbT2 (Nat.le_refl _)
  have hqz:=hLB.lt
  have hWz:=hLB.bel.size
  have hE2:=(hO2.below hbe).fits
  have c5:((a1.alloc (.cells #[.int .i64 0,.int .i64 0,.int .i64 0,.int .i64 0,.int .i64 0,.slice none 0 0] 82)).setCells a1.heap.size 0 y2.arr.toList).cell? ⟨a1.heap.size,5,none⟩ = some (.slice y2.w.p y2.w.n y2.w.c):=box_cell hbT2 5
  have hes:y2.es.map EntV.e = [(noopV 1 1).e,(noopV 2 2).e]:=(congrArg Sta11.es hy2).trans l_es2
  have hn:y2.w.n = 2:=by
    rw [← hE2.n,← List.length_map (f:=EntV.e),hes]
    rfl
  obtain ⟨eb,eo,hp,hel,hce⟩:=hE2.at' (by omega)
  have hc1:=hce 1 (by omega) 1 (by decide)
  have ht2:(y2.es.getD 1 noEV).t = 2:=by
    have h1:(y2.es.map EntV.e).getD 1 noEV.e = (y2.es.getD 1 noEV).e:=by
      simp only [List.getD_eq_getElem?_getD,List.getElem?_map]
      cases y2.es[1]? <;> rfl
    rw [hes] at h1
    exact (congrArg Ent10.t h1).symm
  have hc2:((a1.alloc (.cells #[.int .i64 0,.int .i64 0,.int .i64 0,.int .i64 0,.int .i64 0,.slice none 0 0] 82)).setCells a1.heap.size 0 y2.arr.toList).cell? ⟨eb,eo + 1 * 13 + 1,none⟩ = some (.int .i64 2):=by
    rw [hc1,← ht2]
    rfl
  rw [hp,hn] at c5
  have hc22:=hE2.c
  rw [hn] at hc22
  have hcc:=hE2.c
  generalize y2.w.c = yc at *
  have kC:=hLC.compact HG.out
  have hlz:=heap_lt hbT2
  clear hes ht2 hc1 hce hE2 hO2 hy2 hLA hLB hbe kS hbT hp hn hcc
  go_wp2_with fail
  refine kC.mono ?_
  rintro _ b1 ⟨rfl,hLD⟩
  have kS3:=hLD.state3
  have hlz2:=heap_lt (hLD.box (List.mem_cons_self ..))
  clear kC hthT hstT hbT2 hLC hel hc2 c5 hc22 hlz hb1
  generalize a1.heap.size = z at *
  go_wp2_with fail
  refine kS3.mono ?_
  rintro _ b2 ⟨y3,rfl,hy3,hO3,hb2⟩
  have hLE:=hLD.below hb2
  have hbz:=hLE.box (List.mem_cons_self ..)
  have hthz:=there_box hbz 0 6 (Nat.le_refl _)
  have hstz:=stT_arr 0 y3 hthz
  have hbz2:=setT_box y3 hbz rfl
  have hLF:=hLE.set (List.mem_cons_self ..) (by omega) hWz (Turn.setCells9 y3.arr.toList 0 b2 (Turn.refl _ _)) hbz2
  have c0:(b2.setCells z 0 y3.arr.toList).cell? ⟨z,0,none⟩ = some (.int .i64 1):=by
    rw [box_cell hbz2 0,← l_i3,← hy3]
    rfl
  have hn3:y3.w.n = 1:=by
    rw [← hO3.fits.n,← List.length_map (f:=EntV.e),show y3.es.map EntV.e = lW3.s.es from congrArg Sta11.es hy3,l_len.2.2.2]
  have c5:(b2.setCells z 0 y3.arr.toList).cell? ⟨z,5,none⟩ = some (.slice y3.w.p 1 y3.w.c):=by
    rw [← hn3]
    exact box_cell hbz2 5
  have kG:=hLF.segs3 HG.out
  have hlz:=heap_lt hbz2
  have hlz3:=heap_lt hbz
  clear hy3 hO3 hn3 hLE hLD kS3 hb2 hbz hbz2
  go_wp2_with fail
  refine kG.mono ?_
  rintro _ b3 ⟨⟨gp,gc,rfl⟩,hb3⟩
  have hfin:=(hLF.below hb3).bel
  clear hLF hb3 kG c0 c5
  go_wp2
  go_ret
  exact ⟨rfl,hfin⟩
theorem lives11_any {w:World} (h:Gl11 w):∀ V,Below w.heap.size w V→Calls Tryz.prog 9 #[] V fun e w'=>e = .returned (.bool true)∧Below V.heap.size V w':=fun V hb=>livesW_any V (h.below hb (Nat.le_refl _))
end Go.Proofs.YtkbbhllchombdaaGreatDoor
