import Derived.Test.YtkbbhllchombdaaGreatDoorWbNTo
import Derived.Test.YtkbbhllchombdaaGreatDoorWaL
namespace Go.Proofs.YtkbbhllchombdaaGreatDoor
open Go.RowKit Go.Shelf
attribute [local go_sem ↓] ldE_exec stE_exec ldE_execI stE_execI ldE_run ldE_box stE_box ldC_exec stC_exec ldC_execI stC_execI ldC_run ldW_exec stW_exec ldW_execI stW_execI ldW_box stW_box ldR_exec stR_exec ldR_execI stR_execI ldR_box stR_box ldT_exec stT_exec ldT_execI stT_execI ldT_box ldU_exec stU_exec ldU_execI stU_execI ldH_exec stH_exec ldH_execI stH_execI ldH_run ldH_box stH_box oc_int oc_bool oc_string oc_slice oc_pointer
theorem HasW.ldD {W:World} {s:Sl10} {l:List RecV} (h:HasW W s l) {j:Nat} (hj:j < s.n):∃ b o,s.p = some ⟨b,o,none⟩∧b < W.heap.size∧(ldR (.pointer (some ⟨b,o + j * 19,none⟩))).run Tryz.prog W = .ok (.agg (l.getD j noRV).arr) W:=by
  obtain ⟨b,o,hp,hlt,hc⟩:=h.at' (by omega)
  refine ⟨b,o,hp,hlt,?_⟩
  refine (run_loadAt_mid W b (o + j * 19) 44 (l.getD j noRV).arr.toList _ (fun i v hi=>?_) Tryz.underlying44 rfl (by rw [rarr_len];kernel_rfl)).trans (by rw [Array.toArray_toList])
  have hi19:i < 19:=by
    have:=(List.getElem?_eq_some_iff.1 hi).1
    rwa [rarr_len] at this
  rw [hc j hj i hi19,← Array.getElem?_toList]
  exact hi
theorem stR_arr {w:World} {b:Nat} (x:RecV) (h:w.there b 0 19):(stR (.pointer (some ⟨b,0,none⟩)) (.agg x.arr)).run Tryz.prog w = .ok () (w.setCells b 0 x.arr.toList):=by
  refine run_storeAt_mid w b 0 44 x.arr h (by show _ = some 19;kernel_rfl) ?_
  have:=all_oneCell_toArray (cs:=x.arr.toList) (rarr_cell x)
  rwa [Array.toArray_toList] at this
theorem Below.new (A:World) (o:Obj):Below A.heap.size A (A.alloc o):=(Below.refl _ _).alloc (Nat.le_refl _) _
structure Pr2 (wr V:World) (b c:Nat) (r1 r2:RecV):Prop where
  s1:(stR (.pointer (some ⟨b,0,none⟩)) (.agg r1.arr)).run Tryz.prog V = .ok () (V.setCells b 0 r1.arr.toList)
  s2:(stR (.pointer (some ⟨c,0,none⟩)) (.agg r2.arr)).run Tryz.prog (V.setCells b 0 r1.arr.toList) = .ok () ((V.setCells b 0 r1.arr.toList).setCells c 0 r2.arr.toList)
  b1:Below wr.heap.size wr (V.setCells b 0 r1.arr.toList)
  b2:Below wr.heap.size wr ((V.setCells b 0 r1.arr.toList).setCells c 0 r2.arr.toList)
  x1:((V.setCells b 0 r1.arr.toList).setCells c 0 r2.arr.toList).heap[b]? = some (.cells r1.arr 44 (0,0))
  x2:((V.setCells b 0 r1.arr.toList).setCells c 0 r2.arr.toList).heap[c]? = some (.cells r2.arr 44 (0,0))
theorem set_other11 {V:World} {b c:Nat} (h:c < V.heap.size) (hne:c ≠ b) (l:List Value):(V.setCells b 0 l).heap[c]? = V.heap[c]?:=(setCells_grown b l 0 V).block c h (fun e=>hne (Option.some.inj e))
theorem pr2_of {wr V:World} {b c:Nat} {z y:Array Value} (r1 r2:RecV) (hb:V.heap[b]? = some (.cells z 44 (0,0))) (hz:z.size = 19) (hc:V.heap[c]? = some (.cells y 44 (0,0))) (hy:y.size = 19) (hne:b ≠ c) (hwb:wr.heap.size≤b) (hwc:wr.heap.size≤c) (h:Below wr.heap.size wr V):Pr2 wr V b c r1 r2:=by
  have hc':(V.setCells b 0 r1.arr.toList).heap[c]? = some (.cells y 44 (0,0)):=(set_other11 (Array.getElem?_eq_some_iff.1 hc).1 (Ne.symm hne) _).trans hc
  have e:∀ (r:RecV) (q:Array Value),q.size = 19→r.arr.toList = q.toList.take 0++r.arr.toList++q.toList.drop (0 + r.arr.toList.length):=fun r q hq=>by
    rw [List.take_zero,List.nil_append,Nat.zero_add,List.drop_eq_nil_of_le (by rw [Array.length_toList,hq,rarr_len];exact Nat.le_refl _),List.append_nil]
  have hl:∀ r:RecV,r.arr.toList.length = 19:=rarr_len
  have hb2:=setCells_box hb 0 r1.arr.toList r1.arr (by rw [hl,hz];exact Nat.le_refl _) (e r1 z hz)
  have hc2:=setCells_box hc' 0 r2.arr.toList r2.arr (by rw [hl,hy];exact Nat.le_refl _) (e r2 y hy)
  exact ⟨stR_arr r1 (there_box hb 0 19 (by rw [hz];exact Nat.le_refl _)),stR_arr r2 (there_box hc' 0 19 (by rw [hy];exact Nat.le_refl _)),setCells_below hwb _ _ h,setCells_below hwc _ _ (setCells_below hwb _ _ h),(set_other11 (Array.getElem?_eq_some_iff.1 hb2).1 hne _).trans hb2,hc2⟩
theorem pr2_a {wr w4:World} (r1 r2:RecV) (h:Below (((wr.alloc (.cells #[.int .i64 0,.int .i64 0,.int .i64 0,.int .i64 0,.int .i64 0,.int .i64 0,.int .i64 0,.string ⟨#[]⟩,.string ⟨#[]⟩,.string ⟨#[]⟩,.string ⟨#[]⟩,.int .i64 0,.slice none 0 0,.slice none 0 0,.int .i64 0,.int .i64 0,.int .i64 0,.int .i64 0,.int .i64 0] 44)).alloc (.cells #[.int .i64 0,.int .i64 0,.int .i64 0,.int .i64 0,.int .i64 0,.int .i64 0,.int .i64 0,.string ⟨#[]⟩,.string ⟨#[]⟩,.string ⟨#[]⟩,.string ⟨#[]⟩,.int .i64 0,.slice none 0 0,.slice none 0 0,.int .i64 0,.int .i64 0,.int .i64 0,.int .i64 0,.int .i64 0] 44)).drew).heap.size (((wr.alloc (.cells #[.int .i64 0,.int .i64 0,.int .i64 0,.int .i64 0,.int .i64 0,.int .i64 0,.int .i64 0,.string ⟨#[]⟩,.string ⟨#[]⟩,.string ⟨#[]⟩,.string ⟨#[]⟩,.int .i64 0,.slice none 0 0,.slice none 0 0,.int .i64 0,.int .i64 0,.int .i64 0,.int .i64 0,.int .i64 0] 44)).alloc (.cells #[.int .i64 0,.int .i64 0,.int .i64 0,.int .i64 0,.int .i64 0,.int .i64 0,.int .i64 0,.string ⟨#[]⟩,.string ⟨#[]⟩,.string ⟨#[]⟩,.string ⟨#[]⟩,.int .i64 0,.slice none 0 0,.slice none 0 0,.int .i64 0,.int .i64 0,.int .i64 0,.int .i64 0,.int .i64 0] 44)).drew) w4):Pr2 wr w4 wr.heap.size (wr.heap.size + 1) r1 r2∧Pr2 wr w4 (wr.heap.size + 1) wr.heap.size r1 r2∧Below wr.heap.size wr w4:=by
  have g1:=box_below (heap_alloc_new wr (.cells #[.int .i64 0,.int .i64 0,.int .i64 0,.int .i64 0,.int .i64 0,.int .i64 0,.int .i64 0,.string ⟨#[]⟩,.string ⟨#[]⟩,.string ⟨#[]⟩,.string ⟨#[]⟩,.int .i64 0,.slice none 0 0,.slice none 0 0,.int .i64 0,.int .i64 0,.int .i64 0,.int .i64 0,.int .i64 0] 44)) (Below.new (wr.alloc (.cells #[.int .i64 0,.int .i64 0,.int .i64 0,.int .i64 0,.int .i64 0,.int .i64 0,.int .i64 0,.string ⟨#[]⟩,.string ⟨#[]⟩,.string ⟨#[]⟩,.string ⟨#[]⟩,.int .i64 0,.slice none 0 0,.slice none 0 0,.int .i64 0,.int .i64 0,.int .i64 0,.int .i64 0,.int .i64 0] 44)) (.cells #[.int .i64 0,.int .i64 0,.int .i64 0,.int .i64 0,.int .i64 0,.int .i64 0,.int .i64 0,.string ⟨#[]⟩,.string ⟨#[]⟩,.string ⟨#[]⟩,.string ⟨#[]⟩,.int .i64 0,.slice none 0 0,.slice none 0 0,.int .i64 0,.int .i64 0,.int .i64 0,.int .i64 0,.int .i64 0] 44))
  have g2:=heap_alloc_new (wr.alloc (.cells #[.int .i64 0,.int .i64 0,.int .i64 0,.int .i64 0,.int .i64 0,.int .i64 0,.int .i64 0,.string ⟨#[]⟩,.string ⟨#[]⟩,.string ⟨#[]⟩,.string ⟨#[]⟩,.int .i64 0,.slice none 0 0,.slice none 0 0,.int .i64 0,.int .i64 0,.int .i64 0,.int .i64 0,.int .i64 0] 44)) (.cells #[.int .i64 0,.int .i64 0,.int .i64 0,.int .i64 0,.int .i64 0,.int .i64 0,.int .i64 0,.string ⟨#[]⟩,.string ⟨#[]⟩,.string ⟨#[]⟩,.string ⟨#[]⟩,.int .i64 0,.slice none 0 0,.slice none 0 0,.int .i64 0,.int .i64 0,.int .i64 0,.int .i64 0,.int .i64 0] 44)
  rw [World.size_alloc] at g2
  have h1:=box_below (w:=((wr.alloc (.cells #[.int .i64 0,.int .i64 0,.int .i64 0,.int .i64 0,.int .i64 0,.int .i64 0,.int .i64 0,.string ⟨#[]⟩,.string ⟨#[]⟩,.string ⟨#[]⟩,.string ⟨#[]⟩,.int .i64 0,.slice none 0 0,.slice none 0 0,.int .i64 0,.int .i64 0,.int .i64 0,.int .i64 0,.int .i64 0] 44)).alloc (.cells #[.int .i64 0,.int .i64 0,.int .i64 0,.int .i64 0,.int .i64 0,.int .i64 0,.int .i64 0,.string ⟨#[]⟩,.string ⟨#[]⟩,.string ⟨#[]⟩,.string ⟨#[]⟩,.int .i64 0,.slice none 0 0,.slice none 0 0,.int .i64 0,.int .i64 0,.int .i64 0,.int .i64 0,.int .i64 0] 44)).drew) (b:=wr.heap.size) g1 h
  have h2:=box_below (w:=((wr.alloc (.cells #[.int .i64 0,.int .i64 0,.int .i64 0,.int .i64 0,.int .i64 0,.int .i64 0,.int .i64 0,.string ⟨#[]⟩,.string ⟨#[]⟩,.string ⟨#[]⟩,.string ⟨#[]⟩,.int .i64 0,.slice none 0 0,.slice none 0 0,.int .i64 0,.int .i64 0,.int .i64 0,.int .i64 0,.int .i64 0] 44)).alloc (.cells #[.int .i64 0,.int .i64 0,.int .i64 0,.int .i64 0,.int .i64 0,.int .i64 0,.int .i64 0,.string ⟨#[]⟩,.string ⟨#[]⟩,.string ⟨#[]⟩,.string ⟨#[]⟩,.int .i64 0,.slice none 0 0,.slice none 0 0,.int .i64 0,.int .i64 0,.int .i64 0,.int .i64 0,.int .i64 0] 44)).drew) (b:=wr.heap.size + 1) g2 h
  have h0:Below wr.heap.size wr (((wr.alloc (.cells #[.int .i64 0,.int .i64 0,.int .i64 0,.int .i64 0,.int .i64 0,.int .i64 0,.int .i64 0,.string ⟨#[]⟩,.string ⟨#[]⟩,.string ⟨#[]⟩,.string ⟨#[]⟩,.int .i64 0,.slice none 0 0,.slice none 0 0,.int .i64 0,.int .i64 0,.int .i64 0,.int .i64 0,.int .i64 0] 44)).alloc (.cells #[.int .i64 0,.int .i64 0,.int .i64 0,.int .i64 0,.int .i64 0,.int .i64 0,.int .i64 0,.string ⟨#[]⟩,.string ⟨#[]⟩,.string ⟨#[]⟩,.string ⟨#[]⟩,.int .i64 0,.slice none 0 0,.slice none 0 0,.int .i64 0,.int .i64 0,.int .i64 0,.int .i64 0,.int .i64 0] 44)).drew):=on_drew ((Below.new wr (.cells #[.int .i64 0,.int .i64 0,.int .i64 0,.int .i64 0,.int .i64 0,.int .i64 0,.int .i64 0,.string ⟨#[]⟩,.string ⟨#[]⟩,.string ⟨#[]⟩,.string ⟨#[]⟩,.int .i64 0,.slice none 0 0,.slice none 0 0,.int .i64 0,.int .i64 0,.int .i64 0,.int .i64 0,.int .i64 0] 44)).alloc (by rw [World.size_alloc];exact Nat.le_succ _) (.cells #[.int .i64 0,.int .i64 0,.int .i64 0,.int .i64 0,.int .i64 0,.int .i64 0,.int .i64 0,.string ⟨#[]⟩,.string ⟨#[]⟩,.string ⟨#[]⟩,.string ⟨#[]⟩,.int .i64 0,.slice none 0 0,.slice none 0 0,.int .i64 0,.int .i64 0,.int .i64 0,.int .i64 0,.int .i64 0] 44))
  have h3:=h0.trans (h.mono h0.size)
  exact ⟨pr2_of r1 r2 h1 rfl h2 rfl (Nat.ne_of_lt (Nat.lt_succ_self _)) (Nat.le_refl _) (Nat.le_succ _) h3,pr2_of r1 r2 h2 rfl h1 rfl (Ne.symm (Nat.ne_of_lt (Nat.lt_succ_self _))) (Nat.le_succ _) (Nat.le_refl _) h3,h3⟩
theorem pr2_b {wr w4:World} (r1 r2:RecV) (h:Below ((wr.alloc (.cells #[.int .i64 0,.int .i64 0,.int .i64 0,.int .i64 0,.int .i64 0,.int .i64 0,.int .i64 0,.string ⟨#[]⟩,.string ⟨#[]⟩,.string ⟨#[]⟩,.string ⟨#[]⟩,.int .i64 0,.slice none 0 0,.slice none 0 0,.int .i64 0,.int .i64 0,.int .i64 0,.int .i64 0,.int .i64 0] 44)).drew).heap.size ((wr.alloc (.cells #[.int .i64 0,.int .i64 0,.int .i64 0,.int .i64 0,.int .i64 0,.int .i64 0,.int .i64 0,.string ⟨#[]⟩,.string ⟨#[]⟩,.string ⟨#[]⟩,.string ⟨#[]⟩,.int .i64 0,.slice none 0 0,.slice none 0 0,.int .i64 0,.int .i64 0,.int .i64 0,.int .i64 0,.int .i64 0] 44)).drew) w4):Pr2 wr (w4.alloc (.cells #[.int .i64 0,.int .i64 0,.int .i64 0,.int .i64 0,.int .i64 0,.int .i64 0,.int .i64 0,.string ⟨#[]⟩,.string ⟨#[]⟩,.string ⟨#[]⟩,.string ⟨#[]⟩,.int .i64 0,.slice none 0 0,.slice none 0 0,.int .i64 0,.int .i64 0,.int .i64 0,.int .i64 0,.int .i64 0] 44)) wr.heap.size w4.heap.size r1 r2∧Pr2 wr (w4.alloc (.cells #[.int .i64 0,.int .i64 0,.int .i64 0,.int .i64 0,.int .i64 0,.int .i64 0,.int .i64 0,.string ⟨#[]⟩,.string ⟨#[]⟩,.string ⟨#[]⟩,.string ⟨#[]⟩,.int .i64 0,.slice none 0 0,.slice none 0 0,.int .i64 0,.int .i64 0,.int .i64 0,.int .i64 0,.int .i64 0] 44)) w4.heap.size wr.heap.size r1 r2∧Below wr.heap.size wr (w4.alloc (.cells #[.int .i64 0,.int .i64 0,.int .i64 0,.int .i64 0,.int .i64 0,.int .i64 0,.int .i64 0,.string ⟨#[]⟩,.string ⟨#[]⟩,.string ⟨#[]⟩,.string ⟨#[]⟩,.int .i64 0,.slice none 0 0,.slice none 0 0,.int .i64 0,.int .i64 0,.int .i64 0,.int .i64 0,.int .i64 0] 44)):=by
  have h1:=box_below (box_below (w:=(wr.alloc (.cells #[.int .i64 0,.int .i64 0,.int .i64 0,.int .i64 0,.int .i64 0,.int .i64 0,.int .i64 0,.string ⟨#[]⟩,.string ⟨#[]⟩,.string ⟨#[]⟩,.string ⟨#[]⟩,.int .i64 0,.slice none 0 0,.slice none 0 0,.int .i64 0,.int .i64 0,.int .i64 0,.int .i64 0,.int .i64 0] 44)).drew) (b:=wr.heap.size) (heap_alloc_new wr (.cells #[.int .i64 0,.int .i64 0,.int .i64 0,.int .i64 0,.int .i64 0,.int .i64 0,.int .i64 0,.string ⟨#[]⟩,.string ⟨#[]⟩,.string ⟨#[]⟩,.string ⟨#[]⟩,.int .i64 0,.slice none 0 0,.slice none 0 0,.int .i64 0,.int .i64 0,.int .i64 0,.int .i64 0,.int .i64 0] 44)) h) (Below.new w4 (.cells #[.int .i64 0,.int .i64 0,.int .i64 0,.int .i64 0,.int .i64 0,.int .i64 0,.int .i64 0,.string ⟨#[]⟩,.string ⟨#[]⟩,.string ⟨#[]⟩,.string ⟨#[]⟩,.int .i64 0,.slice none 0 0,.slice none 0 0,.int .i64 0,.int .i64 0,.int .i64 0,.int .i64 0,.int .i64 0] 44))
  have h2:=heap_alloc_new w4 (.cells #[.int .i64 0,.int .i64 0,.int .i64 0,.int .i64 0,.int .i64 0,.int .i64 0,.int .i64 0,.string ⟨#[]⟩,.string ⟨#[]⟩,.string ⟨#[]⟩,.string ⟨#[]⟩,.int .i64 0,.slice none 0 0,.slice none 0 0,.int .i64 0,.int .i64 0,.int .i64 0,.int .i64 0,.int .i64 0] 44)
  have h0:Below wr.heap.size wr ((wr.alloc (.cells #[.int .i64 0,.int .i64 0,.int .i64 0,.int .i64 0,.int .i64 0,.int .i64 0,.int .i64 0,.string ⟨#[]⟩,.string ⟨#[]⟩,.string ⟨#[]⟩,.string ⟨#[]⟩,.int .i64 0,.slice none 0 0,.slice none 0 0,.int .i64 0,.int .i64 0,.int .i64 0,.int .i64 0,.int .i64 0] 44)).drew):=on_drew (Below.new wr (.cells #[.int .i64 0,.int .i64 0,.int .i64 0,.int .i64 0,.int .i64 0,.int .i64 0,.int .i64 0,.string ⟨#[]⟩,.string ⟨#[]⟩,.string ⟨#[]⟩,.string ⟨#[]⟩,.int .i64 0,.slice none 0 0,.slice none 0 0,.int .i64 0,.int .i64 0,.int .i64 0,.int .i64 0,.int .i64 0] 44))
  have hs:(wr.alloc (.cells #[.int .i64 0,.int .i64 0,.int .i64 0,.int .i64 0,.int .i64 0,.int .i64 0,.int .i64 0,.string ⟨#[]⟩,.string ⟨#[]⟩,.string ⟨#[]⟩,.string ⟨#[]⟩,.int .i64 0,.slice none 0 0,.slice none 0 0,.int .i64 0,.int .i64 0,.int .i64 0,.int .i64 0,.int .i64 0] 44)).heap.size≤w4.heap.size:=h.size
  rw [World.size_alloc] at hs
  have h3:=(h0.trans (h.mono h0.size)).alloc (by omega) (.cells #[.int .i64 0,.int .i64 0,.int .i64 0,.int .i64 0,.int .i64 0,.int .i64 0,.int .i64 0,.string ⟨#[]⟩,.string ⟨#[]⟩,.string ⟨#[]⟩,.string ⟨#[]⟩,.int .i64 0,.slice none 0 0,.slice none 0 0,.int .i64 0,.int .i64 0,.int .i64 0,.int .i64 0,.int .i64 0] 44)
  exact ⟨pr2_of r1 r2 h1 rfl h2 rfl (by omega) (Nat.le_refl _) (by omega) h3,pr2_of r1 r2 h2 rfl h1 rfl (by omega) (by omega) (Nat.le_refl _) h3,h3⟩
theorem pr2_c {wr w4:World} (r1 r2:RecV) (h:Below wr.drew.heap.size wr.drew w4):Pr2 wr ((w4.alloc (.cells #[.int .i64 0,.int .i64 0,.int .i64 0,.int .i64 0,.int .i64 0,.int .i64 0,.int .i64 0,.string ⟨#[]⟩,.string ⟨#[]⟩,.string ⟨#[]⟩,.string ⟨#[]⟩,.int .i64 0,.slice none 0 0,.slice none 0 0,.int .i64 0,.int .i64 0,.int .i64 0,.int .i64 0,.int .i64 0] 44)).alloc (.cells #[.int .i64 0,.int .i64 0,.int .i64 0,.int .i64 0,.int .i64 0,.int .i64 0,.int .i64 0,.string ⟨#[]⟩,.string ⟨#[]⟩,.string ⟨#[]⟩,.string ⟨#[]⟩,.int .i64 0,.slice none 0 0,.slice none 0 0,.int .i64 0,.int .i64 0,.int .i64 0,.int .i64 0,.int .i64 0] 44)) w4.heap.size (w4.heap.size + 1) r1 r2∧Pr2 wr ((w4.alloc (.cells #[.int .i64 0,.int .i64 0,.int .i64 0,.int .i64 0,.int .i64 0,.int .i64 0,.int .i64 0,.string ⟨#[]⟩,.string ⟨#[]⟩,.string ⟨#[]⟩,.string ⟨#[]⟩,.int .i64 0,.slice none 0 0,.slice none 0 0,.int .i64 0,.int .i64 0,.int .i64 0,.int .i64 0,.int .i64 0] 44)).alloc (.cells #[.int .i64 0,.int .i64 0,.int .i64 0,.int .i64 0,.int .i64 0,.int .i64 0,.int .i64 0,.string ⟨#[]⟩,.string ⟨#[]⟩,.string ⟨#[]⟩,.string ⟨#[]⟩,.int .i64 0,.slice none 0 0,.slice none 0 0,.int .i64 0,.int .i64 0,.int .i64 0,.int .i64 0,.int .i64 0] 44)) (w4.heap.size + 1) w4.heap.size r1 r2∧Below wr.heap.size wr ((w4.alloc (.cells #[.int .i64 0,.int .i64 0,.int .i64 0,.int .i64 0,.int .i64 0,.int .i64 0,.int .i64 0,.string ⟨#[]⟩,.string ⟨#[]⟩,.string ⟨#[]⟩,.string ⟨#[]⟩,.int .i64 0,.slice none 0 0,.slice none 0 0,.int .i64 0,.int .i64 0,.int .i64 0,.int .i64 0,.int .i64 0] 44)).alloc (.cells #[.int .i64 0,.int .i64 0,.int .i64 0,.int .i64 0,.int .i64 0,.int .i64 0,.int .i64 0,.string ⟨#[]⟩,.string ⟨#[]⟩,.string ⟨#[]⟩,.string ⟨#[]⟩,.int .i64 0,.slice none 0 0,.slice none 0 0,.int .i64 0,.int .i64 0,.int .i64 0,.int .i64 0,.int .i64 0] 44)):=by
  have h1:=box_below (heap_alloc_new w4 (.cells #[.int .i64 0,.int .i64 0,.int .i64 0,.int .i64 0,.int .i64 0,.int .i64 0,.int .i64 0,.string ⟨#[]⟩,.string ⟨#[]⟩,.string ⟨#[]⟩,.string ⟨#[]⟩,.int .i64 0,.slice none 0 0,.slice none 0 0,.int .i64 0,.int .i64 0,.int .i64 0,.int .i64 0,.int .i64 0] 44)) ((Below.refl _ _).alloc (Nat.le_refl _) (.cells #[.int .i64 0,.int .i64 0,.int .i64 0,.int .i64 0,.int .i64 0,.int .i64 0,.int .i64 0,.string ⟨#[]⟩,.string ⟨#[]⟩,.string ⟨#[]⟩,.string ⟨#[]⟩,.int .i64 0,.slice none 0 0,.slice none 0 0,.int .i64 0,.int .i64 0,.int .i64 0,.int .i64 0,.int .i64 0] 44))
  have h2:=heap_alloc_new (w4.alloc (.cells #[.int .i64 0,.int .i64 0,.int .i64 0,.int .i64 0,.int .i64 0,.int .i64 0,.int .i64 0,.string ⟨#[]⟩,.string ⟨#[]⟩,.string ⟨#[]⟩,.string ⟨#[]⟩,.int .i64 0,.slice none 0 0,.slice none 0 0,.int .i64 0,.int .i64 0,.int .i64 0,.int .i64 0,.int .i64 0] 44)) (.cells #[.int .i64 0,.int .i64 0,.int .i64 0,.int .i64 0,.int .i64 0,.int .i64 0,.int .i64 0,.string ⟨#[]⟩,.string ⟨#[]⟩,.string ⟨#[]⟩,.string ⟨#[]⟩,.int .i64 0,.slice none 0 0,.slice none 0 0,.int .i64 0,.int .i64 0,.int .i64 0,.int .i64 0,.int .i64 0] 44)
  rw [World.size_alloc] at h2
  have h0:Below wr.heap.size wr wr.drew:=on_drew (Below.refl _ wr)
  have hs:wr.heap.size≤w4.heap.size:=h.size
  have h3:=((h0.trans (h.mono h0.size)).alloc hs (.cells #[.int .i64 0,.int .i64 0,.int .i64 0,.int .i64 0,.int .i64 0,.int .i64 0,.int .i64 0,.string ⟨#[]⟩,.string ⟨#[]⟩,.string ⟨#[]⟩,.string ⟨#[]⟩,.int .i64 0,.slice none 0 0,.slice none 0 0,.int .i64 0,.int .i64 0,.int .i64 0,.int .i64 0,.int .i64 0] 44)).alloc (by rw [World.size_alloc];omega) (.cells #[.int .i64 0,.int .i64 0,.int .i64 0,.int .i64 0,.int .i64 0,.int .i64 0,.int .i64 0,.string ⟨#[]⟩,.string ⟨#[]⟩,.string ⟨#[]⟩,.string ⟨#[]⟩,.int .i64 0,.slice none 0 0,.slice none 0 0,.int .i64 0,.int .i64 0,.int .i64 0,.int .i64 0,.int .i64 0] 44)
  exact ⟨pr2_of r1 r2 h1 rfl h2 rfl (by omega) hs (by omega) h3,pr2_of r1 r2 h2 rfl h1 rfl (by omega) (by omega) hs h3,h3⟩
theorem cells11 {W:World} {b:Nat} {x:RecV} {t:TypeId} {fr:Nat × Nat} (h:W.heap[b]? = some (.cells x.arr t fr)) {k i u p q r:Int} (e:x.k = k∧x.i = i∧x.t = u∧x.h = ⟨p,q,r⟩):W.cell? ⟨b,0,none⟩ = some (.int .i64 k)∧W.cell? ⟨b,17,none⟩ = some (.int .i64 i)∧W.cell? ⟨b,18,none⟩ = some (.int .i64 u)∧(ldE (.pointer (some ⟨b,1,none⟩))).run Tryz.prog W = .ok (.agg x.e.arr) W∧(ldH (.pointer (some ⟨b,14,none⟩))).run Tryz.prog W = .ok (.agg #[.int .i64 p,.int .i64 q,.int .i64 r]) W:=by
  obtain ⟨e1,e2,e3,e4⟩:=e
  have hH:=ldH_inP h
  rw [e4] at hH
  refine ⟨?_,?_,?_,ldE_in h,hH⟩
  · rw [← e1];exact box_cell h 0
  · rw [← e2];exact box_cell h 17
  · rw [← e3];exact box_cell h 18
theorem getR11 {l m:List RecV} (h:l.map RecV.r = m.map RecV.r) (i:Nat):(l.getD i noRV).r = (m.getD i noRV).r:=by
  have:=congrArg (fun q=>q.getD i noR11) h
  simp only [List.getD_eq_getElem?_getD,List.getElem?_map] at this
  rw [List.getD_eq_getElem?_getD,List.getD_eq_getElem?_getD]
  cases h1:l[i]? with
  | none =>
    cases h2:m[i]? with
    | none=>rfl
    | some b=>rw [h1,h2] at this;exact this
  | some a =>
    cases h2:m[i]? with
    | none=>rw [h1,h2] at this;exact this
    | some b=>rw [h1,h2] at this;exact this
theorem recB_isBy (r:Rec11):IsB (recB11 r):=by
  rw [recB_frame]
  split
  · unfold frameF
    split
    · exact IsB.nil
    · exact frameB_isB (IsB.append (zigB_isB _) (partR_isB _))
  · exact IsB.nil
theorem isB_8 {l:List Int} (h:IsB l):isB8 l:=fun z hz=>⟨(h z hz).1,by have:=(h z hz).2;omega⟩
theorem scan_few (xs:List Int):(scan11 xs).1.length≤xs.length:=by
  suffices h:∀ n xs,xs.length≤n→(scan11 xs).1.length≤xs.length from h _ xs (Nat.le_refl _)
  intro n
  induction n with
  | zero =>
    intro xs h
    rw [List.eq_nil_of_length_eq_zero (Nat.le_zero.1 h)]
    exact Nat.zero_le _
  | succ n ih =>
    intro xs h
    by_cases hc:(unframeS xs).2.2 = 0∧(readR11 (unframeS xs).1).2 = true
    · have hl:=unframe_len hc.1
      rw [scan_cons hc]
      have:=ih (xs.drop (unframeS xs).2.1.toNat) (by rw [List.length_drop];omega)
      rw [List.length_drop] at this
      dsimp only
      rw [List.length_cons]
      omega
    · rw [scan_none hc]
      exact Nat.zero_le _
set_option maxRecDepth 100000 in
set_option maxHeartbeats 4000000 in
theorem walBytes_of (x:RecV) (pb:Option Addr) (nb cb:Nat) (xs:List Int) (N:Int) (S:ByteArray) (w:World) (hG:Gl11 w) (hx:FitsR w x) (hv:Has w (.slice pb nb cb) xs) (hB:IsB xs) (hN:inI N) (hS:S.size≤140737488355328) (hnb:nb≤140737488355328) (hL:Lives11 w) :
    Calls Tryz.prog 3 #[.agg x.arr,.slice pb nb cb,.agg #[.int .i64 N,.string S]] w fun e w'=>e = .returned (.bool true)∧Below w.heap.size w w':=by
  have hB0:Below w.heap.size w ((w.alloc (.cells x.arr 32)).alloc (.cells #[.int .i64 N,.string S] 35)):=((Below.refl _ w).alloc (Nat.le_refl _) _).alloc (by simp) _
  have hbx:((w.alloc (.cells x.arr 32)).alloc (.cells #[.int .i64 N,.string S] 35)).heap[w.heap.size]? = some (.cells x.arr 32 (0,0)):=box_below (heap_alloc_new w _) ((Below.refl _ _).alloc (Nat.le_refl _) _)
  have hbn:=heap_alloc_new (w.alloc (.cells x.arr 32)) (.cells #[.int .i64 N,.string S] 35)
  rw [World.size_alloc] at hbn
  have hlE:=ldE_in hbx
  have kw:=weight_any x.e _ (hx.e.below hB0)
  have hwb:weightE x.e.e≤70368744177664:=by
    obtain ⟨s1,s2,s3,s4,-⟩:=hx.e.c
    have s5:=hx.e.f.lu
    have s6:=hx.e.f.lv
    show 1 + (x.e.c.key.size + x.e.c.old.size + x.e.c.val.size + x.e.c.unt.size) / 20 + x.e.f.f.vs.length + x.e.f.f.ls.length≤_
    omega
  have hlxs:xs.length = nb:=hv.len.1
  have HF:Hid (weightE x.e.e≤300→FewF x.e.f.f∧FewC x.e.c):=fun h=>weight_few h (by decide)
  have HX:Hid (FitsR w x):=hx
  have HV:Hid (Has w (.slice pb nb cb) xs):=hv
  have HBs:Hid (IsB xs):=hB
  have HG:Hid (Gl11 w):=hG
  have HL:Hid (Lives11 w):=hL
  generalize weightE x.e.e = wt at *
  have y1:((w.alloc (.cells x.arr 32)).alloc (.cells #[.int .i64 N,.string S] 35)).cell? ⟨w.heap.size + 1,1,none⟩ = some (.string S):=box_cell hbn 1
  have hl0:=box_lt hbn
  clear hx hv hB hG hL
  go_enter Tryz.func3,Tryz.ntmps3
  by_cases hbig:300 < wt∨8000 < nb∨5000 < S.size
  · have kl:Hid (∀ W,Below w.heap.size w W→Calls Tryz.prog 9 #[] W fun e w'=>e = .returned (.bool true)∧Below W.heap.size W w'):=HL.out
    have fin:Hid (∀ w1,Below ((w.alloc (.cells x.arr 32)).alloc (.cells #[.int .i64 N,.string S] 35)).heap.size ((w.alloc (.cells x.arr 32)).alloc (.cells #[.int .i64 N,.string S] 35)) w1→Below w.heap.size w w1∧w1.cell? ⟨w.heap.size + 1,1,none⟩ = some (.string S)∧w.heap.size + 1 < w1.heap.size):=fun w1 h=>⟨hB0.trans (h.mono hB0.size),(h.cell (p:=⟨w.heap.size + 1,1,none⟩) hl0).trans y1,Nat.lt_of_lt_of_le hl0 h.size⟩
    go_upto_region 1 with fail
    clear hbx hbn hB0
    by_cases h1:300 < wt
    · have h1':(300:Int) < (wt:Int):=by omega
      go_wp2_with (first
        | (go_at_call 8;refine kw.mono ?_;rintro _ w1 ⟨rfl,hb1⟩;obtain ⟨hB1,z1,z2⟩:=fin.out w1 hb1;have kl1:=kl.out w1 hB1)
        | (go_at_call 9;refine kl1.mono ?_;rintro _ w2 ⟨rfl,hb2⟩))
      go_ret
      exact ⟨rfl,hB1.trans (hb2.mono hB1.size)⟩
    by_cases h2:8000 < nb
    · have h2':(8000:Int) < (nb:Int):=by omega
      have h1':(wt:Int)≤300:=by omega
      go_wp2_with (first
        | (go_at_call 8;refine kw.mono ?_;rintro _ w1 ⟨rfl,hb1⟩;obtain ⟨hB1,z1,z2⟩:=fin.out w1 hb1;have kl1:=kl.out w1 hB1)
        | (go_at_call 9;refine kl1.mono ?_;rintro _ w2 ⟨rfl,hb2⟩))
      go_ret
      exact ⟨rfl,hB1.trans (hb2.mono hB1.size)⟩
    · have h3':(5000:Int) < (S.size:Int):=by omega
      have h2':(nb:Int)≤8000:=by omega
      have h1':(wt:Int)≤300:=by omega
      go_wp2_with (first
        | (go_at_call 8;refine kw.mono ?_;rintro _ w1 ⟨rfl,hb1⟩;obtain ⟨hB1,z1,z2⟩:=fin.out w1 hb1;have kl1:=kl.out w1 hB1)
        | (go_at_call 9;refine kl1.mono ?_;rintro _ w2 ⟨rfl,hb2⟩))
      go_ret
      exact ⟨rfl,hB1.trans (hb2.mono hB1.size)⟩
  have h1':(wt:Int)≤300:=by omega
  have h2':(nb:Int)≤8000:=by omega
  have h3':(S.size:Int)≤5000:=by omega
  have hfew:=HF.out (by omega)
  have fin:Hid (∀ w1,Below ((w.alloc (.cells x.arr 32)).alloc (.cells #[.int .i64 N,.string S] 35)).heap.size ((w.alloc (.cells x.arr 32)).alloc (.cells #[.int .i64 N,.string S] 35)) w1→Below w.heap.size w w1∧w1.cell? ⟨w.heap.size + 1,1,none⟩ = some (.string S)∧w.heap.size + 1 < w1.heap.size∧w1.heap[w.heap.size]? = some (.cells x.arr 32 (0,0))∧w1.heap[w.heap.size + 1]? = some (.cells #[.int .i64 N,.string S] 35 (0,0))):=fun w1 h=>⟨hB0.trans (h.mono hB0.size),(h.cell (p:=⟨w.heap.size + 1,1,none⟩) hl0).trans y1,Nat.lt_of_lt_of_le hl0 h.size,box_below hbx h,box_below hbn h⟩
  clear hbig HF hbx hbn
  go_upto_region 3 with (go_at_call 8;refine kw.mono ?_;rintro _ w1 ⟨rfl,hb1⟩;obtain ⟨hB1,z1,z2,z3,z4⟩:=fin.out w1 hb1)
  clear kw fin hlE y1 hl0 hB0 hb1
  have k1:=scan11_any _ _ w1 (HG.out.tab.below hB1 (Nat.le_refl _)) (HV.out.below hB1 (Nat.le_refl _)) HBs.out (by omega)
  have K2:Hid (∀ W,Below w.heap.size w W→Calls Tryz.prog 11 #[.slice pb nb cb] W fun e w'=>∃ (p:Option Addr) (n c:Nat) (l:List RecV),e = .returned (.tuple #[.slice p n c,.int .i64 ((scan11 xs).2:Nat)])∧RowR 44 w' W.heap.size (.slice p n c) l∧l.map RecV.r = (scan11 xs).1∧Below W.heap.size W w'):=fun W h=>rscan11_any _ _ W (HV.out.below h (Nat.le_refl _)) HBs.out (by omega)
  have hsl:(scan11 xs).1.length≤8000:=Nat.le_trans (scan_few xs) (by omega)
  generalize scan11 xs = Sc at *
  obtain ⟨sl,sn⟩:=Sc
  dsimp only at k1 K2 hsl
  go_upto_region 4 with (go_at_call 10;refine k1.mono ?_;rintro _ w2 ⟨p1,n1,c1,l1,rfl,hr1,hm1,hb2⟩)
  have hB2:=hB1.trans (hb2.mono hB1.size)
  have k2:=K2.out w2 hB2
  clear k1 K2
  go_upto_region 5 with (go_at_call 11;refine k2.mono ?_;rintro _ w3 ⟨p2,n2,c2,l2,rfl,hr2,hm2,hb3⟩)
  clear k2
  have HW1:Hid (HasW w3 ⟨p1,n1,c1⟩ l1):=(hr1.below hb3).has
  have HW2:Hid (HasW w3 ⟨p2,n2,c2⟩ l2):=hr2.has
  have HM:Hid (l1.map RecV.r = l2.map RecV.r):=hm1.trans hm2.symm
  have hn1:l1.length = n1:=HW1.out.n
  have hn2:l2.length = n2:=HW2.out.n
  have hnn:n1 = n2:=by
    have:=congrArg List.length HM.out
    rw [List.length_map,List.length_map] at this
    omega
  have HN1:Hid (l1.length = n1):=hn1
  have hn8:n1≤8000:=by
    have:=congrArg List.length hm1
    rw [List.length_map] at this
    omega
  have hB3:=hB2.trans (hb3.mono hB2.size)
  have z3':=box_below z3 (hb2.trans (hb3.mono hb2.size))
  have z4':=box_below z4 (hb2.trans (hb3.mono hb2.size))
  subst hnn
  clear hm1 hm2 hr1 hr2 hn1 hn2 z1 z2 z3 z4 hb2 hb3 hB1 hB2
  go_wp2
  go_loopw [56] (fun s56 wr=>∃ i:Nat,s56 = .int .i64 (i:Nat)∧i≤n1∧Below w3.heap.size w3 wr) (fun s56 _=>n1 - (intOf s56).toNat)
  case atStart=>exact ⟨0,rfl,Nat.zero_le _,Below.refl _ _⟩
  case round =>
    obtain ⟨i,rfl,hi,hbr⟩:=hrel
    by_cases hlt:i < n1
    · obtain ⟨a1,o1,hp1,hl1,ld1⟩:=(HW1.out.below hbr).ld hlt
      obtain ⟨a2,o2,hp2,hl2,ld2⟩:=(HW2.out.below hbr).ldD hlt
      dsimp only at hp1 hp2
      subst hp1 hp2
      have L1:Hid (∀ W,Below wr.heap.size wr W→(ldW (.pointer (some ⟨a1,o1 + i * 19,none⟩))).run Tryz.prog W = .ok (.agg (l1.getD i noRV).arr) W):=fun W h=>by
        obtain ⟨b',o',hp',-,e'⟩:=((HW1.out.below hbr).below h).ld hlt
        cases hp'
        exact e'
      have L2:Hid (∀ W,Below wr.heap.size wr W→(ldR (.pointer (some ⟨a2,o2 + i * 19,none⟩))).run Tryz.prog W = .ok (.agg (l2.getD i noRV).arr) W):=fun W h=>by
        obtain ⟨b',o',hp',-,e'⟩:=((HW2.out.below hbr).below h).ldD hlt
        cases hp'
        exact e'
      clear ld1 ld2
      have HF1:Hid (FitsR wr (l1.getD i noRV)):=(HW1.out.below hbr).all _ (getD_mem11 (by rw [HN1.out];exact hlt))
      have HF2:Hid (FitsR wr (l2.getD i noRV)):=(HW2.out.below hbr).all _ (getD_mem11 (by rw [HW2.out.n];exact hlt))
      have HE:Hid ((l1.getD i noRV).r = (l2.getD i noRV).r):=getR11 HM.out i
      generalize l1.getD i noRV = r1 at *
      generalize l2.getD i noRV = r2 at *
      have KS:Hid (∀ W,Below wr.heap.size wr W→Calls Tryz.prog 13 #[.agg r1.e.arr,.agg r2.e.arr] W fun e w'=>e = .returned (.bool true)∧Below W.heap.size W w'):=fun W h=>by
        have:=rsameE_any r1.e r2.e W (HF1.out.below h).e.f (HF2.out.below h).e.f
        have e:r1.e.e = r2.e.e:=congrArg Rec11.e HE.out
        rwa [(sameE10_iff _ _).2 e] at this
      obtain ⟨fk,fi,fu,fp,fq,fr,E1,E2⟩:∃ k i u p q r:Int,(r1.k = k∧r1.i = i∧r1.t = u∧r1.h = ⟨p,q,r⟩)∧(r2.k = k∧r2.i = i∧r2.t = u∧r2.h = ⟨p,q,r⟩):=⟨_,_,_,_,_,_,⟨rfl,rfl,rfl,rfl⟩,(congrArg Rec11.k HE.out).symm,(congrArg Rec11.i HE.out).symm,(congrArg Rec11.t HE.out).symm,(congrArg Rec11.h HE.out).symm⟩
      have HE1:Hid (r1.k = fk∧r1.i = fi∧r1.t = fu∧r1.h = ⟨fp,fq,fr⟩):=E1
      have HE2:Hid (r2.k = fk∧r2.i = fi∧r2.t = fu∧r2.h = ⟨fp,fq,fr⟩):=E2
      clear E1 E2
      have s0:(ldW (.pointer (some ⟨a1,o1 + i * 19,none⟩))).run Tryz.prog wr.drew = .ok (.agg r1.arr) wr.drew∧(ldR (.pointer (some ⟨a2,o2 + i * 19,none⟩))).run Tryz.prog wr.drew = .ok (.agg r2.arr) wr.drew∧Below wr.heap.size wr wr.drew:=⟨L1.out _ (on_drew (Below.refl _ _)),L2.out _ (on_drew (Below.refl _ _)),on_drew (Below.refl _ _)⟩
      have kp:∀ W,Calls Tryz.prog 12 #[.agg r1.arr] W fun e w'=>e = .returned (.agg r1.arr)∧Below W.heap.size W w':=fun W=>plain_any11 r1 W
      have kA:=kp (((wr.alloc (.cells #[.int .i64 0,.int .i64 0,.int .i64 0,.int .i64 0,.int .i64 0,.int .i64 0,.int .i64 0,.string ⟨#[]⟩,.string ⟨#[]⟩,.string ⟨#[]⟩,.string ⟨#[]⟩,.int .i64 0,.slice none 0 0,.slice none 0 0,.int .i64 0,.int .i64 0,.int .i64 0,.int .i64 0,.int .i64 0] 44)).alloc (.cells #[.int .i64 0,.int .i64 0,.int .i64 0,.int .i64 0,.int .i64 0,.int .i64 0,.int .i64 0,.string ⟨#[]⟩,.string ⟨#[]⟩,.string ⟨#[]⟩,.string ⟨#[]⟩,.int .i64 0,.slice none 0 0,.slice none 0 0,.int .i64 0,.int .i64 0,.int .i64 0,.int .i64 0,.int .i64 0] 44)).drew)
      have kB:=kp ((wr.alloc (.cells #[.int .i64 0,.int .i64 0,.int .i64 0,.int .i64 0,.int .i64 0,.int .i64 0,.int .i64 0,.string ⟨#[]⟩,.string ⟨#[]⟩,.string ⟨#[]⟩,.string ⟨#[]⟩,.int .i64 0,.slice none 0 0,.slice none 0 0,.int .i64 0,.int .i64 0,.int .i64 0,.int .i64 0,.int .i64 0] 44)).drew)
      have kC:=kp wr.drew
      clear kp
      have KX:∀ A B,((ldW (.pointer (some ⟨a1,o1 + i * 19,none⟩))).run Tryz.prog A = .ok (.agg r1.arr) A∧(ldR (.pointer (some ⟨a2,o2 + i * 19,none⟩))).run Tryz.prog A = .ok (.agg r2.arr) A∧Below wr.heap.size wr A)→Below A.heap.size A B→((ldW (.pointer (some ⟨a1,o1 + i * 19,none⟩))).run Tryz.prog B = .ok (.agg r1.arr) B∧(ldR (.pointer (some ⟨a2,o2 + i * 19,none⟩))).run Tryz.prog B = .ok (.agg r2.arr) B∧Below wr.heap.size wr B):=fun A B h hb=>have h3:=h.2.2.trans (hb.mono h.2.2.size);⟨L1.out _ h3,L2.out _ h3,h3⟩
      have KY:Hid (∀ A,Below wr.heap.size wr A→((ldW (.pointer (some ⟨a1,o1 + i * 19,none⟩))).run Tryz.prog A = .ok (.agg r1.arr) A∧(ldR (.pointer (some ⟨a2,o2 + i * 19,none⟩))).run Tryz.prog A = .ok (.agg r2.arr) A∧Below wr.heap.size wr A)):=fun A h3=>⟨L1.out _ h3,L2.out _ h3,h3⟩
      have hKX:Hid _:=KX
      clear KX
      go_upto_region 10 with fail
      go_region_held3 (fun w'=>(ldW (.pointer (some ⟨a1,o1 + i * 19,none⟩))).run Tryz.prog w' = .ok (.agg r1.arr) w'∧(ldR (.pointer (some ⟨a2,o2 + i * 19,none⟩))).run Tryz.prog w' = .ok (.agg r2.arr) w'∧Below wr.heap.size wr w')
        (first | (with_reducible exact s0) | (with_reducible assumption) | (with_reducible exact KY.out _ b1) | (with_reducible exact KY.out _ b2) | (with_reducible exact KY.out _ d1) | (with_reducible exact KY.out _ d2) | (with_reducible exact hKX.out _ _ (by assumption) hb4) | (with_reducible exact hKX.out _ _ (by assumption) (Below.new _ _)))
        (first
          | (go_at_call 12;(with_reducible refine Calls.mono kA ?_);rintro _ w4 ⟨rfl,hb4⟩;obtain ⟨⟨s1,s2,b1,b2,x1,x2⟩,⟨t1,t2,d1,d2,y1,y2⟩,P3⟩:=pr2_a r1 r2 hb4)
          | (go_at_call 12;(with_reducible refine Calls.mono kB ?_);rintro _ w4 ⟨rfl,hb4⟩;obtain ⟨⟨s1,s2,b1,b2,x1,x2⟩,⟨t1,t2,d1,d2,y1,y2⟩,P3⟩:=pr2_b r1 r2 hb4)
          | (go_at_call 12;(with_reducible refine Calls.mono kC ?_);rintro _ w4 ⟨rfl,hb4⟩;obtain ⟨⟨s1,s2,b1,b2,x1,x2⟩,⟨t1,t2,d1,d2,y1,y2⟩,P3⟩:=pr2_c r1 r2 hb4))
      all_goals
        clear kA kB kC s0 KY hKX s1 s2 b1 t1 t2 d1 P3
        obtain ⟨m0,m1,m2,m3,m4⟩:=cells11 x1 HE1.out
        obtain ⟨n0,n1,n2,n3,n4⟩:=cells11 x2 HE2.out
        obtain ⟨q0,q1,q2,q3,q4⟩:=cells11 y1 HE1.out
        obtain ⟨r0,r1,r2,r3,r4⟩:=cells11 y2 HE2.out
        have HX1:Hid _:=x1
        have HX2:Hid _:=x2
        have HY1:Hid _:=y1
        have HY2:Hid _:=y2
        clear x1 x2 y1 y2
        go_wp2_with (first
          | (go_at_call 13;(with_reducible refine Calls.mono (KS.out _ b2) ?_);rintro _ w5 ⟨rfl,hb5⟩;have hq:=b2.trans (hb5.mono b2.size);obtain ⟨-,j1,j2,-,j4⟩:=cells11 (box_below HX1.out hb5) HE1.out;obtain ⟨-,k1,k2,-,k4⟩:=cells11 (box_below HX2.out hb5) HE2.out)
          | (go_at_call 13;(with_reducible refine Calls.mono (KS.out _ d2) ?_);rintro _ w5 ⟨rfl,hb5⟩;have hq:=d2.trans (hb5.mono d2.size);obtain ⟨-,j1,j2,-,j4⟩:=cells11 (box_below HY1.out hb5) HE1.out;obtain ⟨-,k1,k2,-,k4⟩:=cells11 (box_below HY2.out hb5) HE2.out))
        go_roundw
        case rel=>exact ⟨i + 1,by go_num,by omega,hbr.trans (hq.mono hbr.size)⟩
        case measure=>simp only [intOf];omega
    · have hge:(n1:Int)≤(i:Int):=by omega
      have hB4:=hB3.trans (hbr.mono hB3.size)
      have x1:=box_below z3' hbr
      have x2:=box_below z4' hbr
      have HX1:Hid (wr.heap[w.heap.size]? = some (.cells x.arr 32 (0,0))):=x1
      have HX2:Hid (wr.heap[w.heap.size + 1]? = some (.cells #[.int .i64 N,.string S] 35 (0,0))):=x2
      have y1:wr.cell? ⟨w.heap.size + 1,1,none⟩ = some (.string S):=box_cell x2 1
      have kn:=numberP_any S (by omega) wr (HG.out.below hB4 (Nat.le_refl _))
      have KN:Hid (∀ W,Calls Tryz.prog 15 #[.string S] W fun e w'=>e = .returned (.tuple #[.int .i64 (num11 S).1,.bool (num11 S).2])∧Below W.heap.size W w'):=fun W=>number11_any S (by unfold maxLen;omega) W
      generalize (num11 S).1 = nn at *
      generalize (num11 S).2 = nk at *
      clear HW1 HW2 HM HN1 hbr x1 x2 z3' z4' hsl HV HBs hB3
      go_upto_region 16 with (first
        | (go_at_call 14;refine kn.mono ?_;rintro _ w5 ⟨rfl,hb5⟩;have y5:w5.cell? ⟨w.heap.size + 1,1,none⟩ = some (.string S):=box_cell (box_below HX2.out hb5) 1)
        | (go_at_call 15;refine (KN.out _).mono ?_;rintro _ w6 ⟨rfl,hb6⟩))
      have hb56:=hb5.trans (hb6.mono hb5.size)
      have HB6:Hid (Below w.heap.size w w6):=hB4.trans (hb56.mono hB4.size)
      have HP1:Hid (w6.heap[w.heap.size]? = some (.cells x.arr 32 (0,0))):=box_below HX1.out hb56
      have HP2:Hid (w6.heap[w.heap.size + 1]? = some (.cells #[.int .i64 N,.string S] 35 (0,0))):=box_below HX2.out hb56
      have K0:Hid (∀ W,Below w6.heap.size w6 W→Below w.heap.size w W):=fun W h=>HB6.out.trans (h.mono HB6.out.size)
      have K1:Hid (∀ W,Below w6.heap.size w6 W→Calls Tryz.prog 17 #[.agg x.arr] W (Outs W (recB11 x.r))):=fun W h=>bytesR_any W (HG.out.tab.below (K0.out W h) (Nat.le_refl _)) x (HX.out.below (K0.out W h)) hfew.1 hfew.2
      have K2:Hid (∀ W,Calls Tryz.prog 12 #[.agg x.arr] W fun e w'=>e = .returned (.agg x.arr)∧Below W.heap.size W w'):=fun W=>plain_any11 x W
      have K3:Hid (∀ W,Below w6.heap.size w6 W→Calls Tryz.prog 18 #[.agg x.arr] W (Outs W (recB11 x.r))):=fun W h=>rbytesR_any W x (HX.out.below (K0.out W h)) hfew.1 hfew.2
      have K4:Hid (∀ W v u,Has W v (recB11 x.r)→Has W u (recB11 x.r)→Calls Tryz.prog 16 #[v,u] W fun e w'=>e = .returned (.bool true)∧w' = W):=fun W v u h1 h2=>by
        have:=same8 v u _ _ W h1 h2 (isB_8 (recB_isBy x.r)) (isB_8 (recB_isBy x.r))
        rwa [beq_self_eq_true] at this
      have K5:Hid (∀ W,Below w6.heap.size w6 W→Calls Tryz.prog 19 #[.int .i64 N] W fun e w'=>e = .returned (.string (nameB11 N))∧Below W.heap.size W w'):=fun W h=>nameP_any N hN W (HG.out.below (K0.out W h) (Nat.le_refl _))
      have K6:Hid (∀ W,Calls Tryz.prog 20 #[.int .i64 N] W fun e w'=>e = .returned (.string (nameB11 N))∧Below W.heap.size W w'):=fun W=>name11_any N W
      have K7:Hid (∀ W,Below w6.heap.size w6 W→Calls Tryz.prog 9 #[] W fun e w'=>e = .returned (.bool true)∧Below W.heap.size W w'):=fun W h=>HL.out W (K0.out W h)
      have KY:Hid (∀ A,Below w6.heap.size w6 A→((ldW (.pointer (some ⟨w.heap.size,0,none⟩))).run Tryz.prog A = .ok (.agg x.arr) A∧A.cell? ⟨w.heap.size + 1,0,none⟩ = some (.int .i64 N)∧Below w6.heap.size w6 A)):=fun A h=>⟨ldW_box A _ _ _ _ (box_below HP1.out h) rfl,box_cell (box_below HP2.out h) 0,h⟩
      have KX:Hid (∀ A B,((ldW (.pointer (some ⟨w.heap.size,0,none⟩))).run Tryz.prog A = .ok (.agg x.arr) A∧A.cell? ⟨w.heap.size + 1,0,none⟩ = some (.int .i64 N)∧Below w6.heap.size w6 A)→Below A.heap.size A B→((ldW (.pointer (some ⟨w.heap.size,0,none⟩))).run Tryz.prog B = .ok (.agg x.arr) B∧B.cell? ⟨w.heap.size + 1,0,none⟩ = some (.int .i64 N)∧Below w6.heap.size w6 B)):=fun A B h hb=>KY.out B (h.2.2.trans (hb.mono h.2.2.size))
      have KB:Hid (∀ A,((ldW (.pointer (some ⟨w.heap.size,0,none⟩))).run Tryz.prog A = .ok (.agg x.arr) A∧A.cell? ⟨w.heap.size + 1,0,none⟩ = some (.int .i64 N)∧Below w6.heap.size w6 A)→Below w6.heap.size w6 A):=fun A h=>h.2.2
      have s0:=KY.out w6.drew (on_drew (Below.refl _ _))
      clear hb5 hb56 hb6 y1 y5 hB4 HX1 HX2 hfew kn KN HP1 HP2
      generalize nameB11 N = nm at *
      generalize recB11 x.r = rb at *
      go_region_held3 (fun w'=>(ldW (.pointer (some ⟨w.heap.size,0,none⟩))).run Tryz.prog w' = .ok (.agg x.arr) w'∧w'.cell? ⟨w.heap.size + 1,0,none⟩ = some (.int .i64 N)∧Below w6.heap.size w6 w')
        (first | (with_reducible exact s0) | (with_reducible assumption) | (with_reducible exact KX.out _ _ (by assumption) (by assumption)))
        (first
          | (go_at_call 17;(with_reducible refine Calls.mono (K1.out _ (KB.out _ (by assumption))) ?_);rintro _ g1 ⟨v1,rfl,hv1,hc1⟩)
          | (go_at_call 12;(with_reducible refine Calls.mono (K2.out _) ?_);rintro _ g2 ⟨rfl,hc2⟩;have hv2:=hv1.below hc2 (Nat.le_refl _))
          | (go_at_call 18;(with_reducible refine Calls.mono (K3.out _ (KB.out _ (by assumption))) ?_);rintro _ g3 ⟨v3,rfl,hv3,hc3⟩;have hv4:=hv2.below hc3 (Nat.le_refl _))
          | (go_at_call 16;(with_reducible refine Calls.mono (K4.out _ _ _ hv4 hv3) ?_);rintro _ _ ⟨rfl,rfl⟩)
          | (go_at_call 19;(with_reducible refine Calls.mono (K5.out _ (KB.out _ (by assumption))) ?_);rintro _ g5 ⟨rfl,hc5⟩)
          | (go_at_call 20;(with_reducible refine Calls.mono (K6.out _) ?_);rintro _ g6 ⟨rfl,hc6⟩)
          | (go_at_call 9;(with_reducible refine Calls.mono (K7.out _ (KB.out _ (by assumption))) ?_);rintro _ g7 ⟨rfl,hc7⟩;have hfin:=K0.out _ (KB.out _ (KX.out _ _ (by assumption) hc7))))
      go_wp2
      go_ret
      exact ⟨rfl,hfin⟩
end Go.Proofs.YtkbbhllchombdaaGreatDoor
