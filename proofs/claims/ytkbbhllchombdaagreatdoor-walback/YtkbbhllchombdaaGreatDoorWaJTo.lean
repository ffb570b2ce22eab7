import Derived.Test.YtkbbhllchombdaaGreatDoorWaHTo
import Derived.Test.YtkbbhllchombdaaGreatDoorRnyTo
namespace Go.Proofs.YtkbbhllchombdaaGreatDoor
open Go.RowKit Go.Shelf
attribute [local go_sem ↓] ldE_exec stE_exec ldE_execI stE_execI ldE_run ldE_box stE_box ldC_exec stC_exec ldC_execI stC_execI ldC_run ldW_exec stW_exec ldW_execI stW_execI ldW_box stW_box ldR_exec stR_exec ldR_execI stR_execI ldT_exec stT_exec ldT_execI stT_execI ldT_box ldU_exec stU_exec ldU_execI stU_execI ldH_exec stH_exec ldH_execI stH_execI ldH_run ldH_box stH_box oc_int oc_bool oc_string oc_slice oc_pointer
attribute [local go_sem ↓] slF_exec slF_execI slF_run
theorem records_any (p : Option Addr) (n c : Nat) (w : World) : Calls Tryz.prog 36 #[.slice p n c] w fun e w' => e = .returned (.func (.func 92) #[] #[.pointer (some ⟨w.heap.size, 0, none⟩)]) ∧ w' = w.alloc (.cells #[.slice p n c] 33) := by
  have hmf : ∀ (fn : Fn) (first cap : Array Value) (w : World), (Instr.makeFunc fn first cap).run Tryz.prog w = .ok (.func fn first cap) w := fun _ _ _ _ => rfl
  go_enter Tryz.func36, Tryz.ntmps36
  go_wp2
  go_ret
  exact ⟨rfl, rfl⟩
def endR (pre : List (RecV × Nat)) : Nat := (pre.getLast?.map Prod.snd).getD 0
theorem endR_app (pre : List (RecV × Nat)) (x : RecV × Nat) : endR (pre ++ [x]) = x.2 := by simp [endR]
structure At11 (xs : List Int) (pre : List (RecV × Nat)) : Prop where
  le : endR pre ≤ xs.length
  len : pre.length ≤ endR pre
  scan : scan11 xs = (pre.map (fun x => x.1.r) ++ (scan11 (xs.drop (endR pre))).1, endR pre + (scan11 (xs.drop (endR pre))).2)
theorem At11.nil (xs : List Int) : At11 xs [] := ⟨Nat.zero_le _, Nat.zero_le _, by show _ = ([] ++ (scan11 (xs.drop 0)).1, 0 + (scan11 (xs.drop 0)).2); rw [List.drop_zero, List.nil_append, Nat.zero_add]⟩
def recS (p : Option Addr) (n Bm k : Nat) : Prop := k = 0 ∨ k = Bm ∨ (0 < n ∧ ∃ a, p = some a ∧ a.block = k)
theorem Has.keepS {S : Nat → Prop} {X Y : World} {p : Option Addr} {n c : Nat} {xs : List Int} (h : Has X (.slice p n c) xs) (hk : KeepS S X Y) (hS : ∀ a, p = some a → 0 < n → S a.block) : Has Y (.slice p n c) xs := by
  obtain ⟨q, d, e, h1, h2, h3⟩ := h
  simp only [Value.slice.injEq] at e
  obtain ⟨rfl, rfl, rfl⟩ := e
  refine ⟨_, _, rfl, h1, h2, fun h0 => ?_⟩
  obtain ⟨b, o, rfl, hb, hc⟩ := h3 h0
  have hs := hk.same b (hS _ rfl h0)
  exact ⟨b, o, rfl, Nat.lt_of_lt_of_le hb hk.size, fun i hi => (World.cell?_of_block (a := ⟨b, o + i, none⟩) hs).trans (hc i hi)⟩
theorem Tab.keepS11 {S : Nat → Prop} {X Y : World} (h : Tab X) (hk : KeepS S X Y) (h0 : S 0) : Tab Y := ⟨Nat.lt_of_lt_of_le h.1 hk.size, fun i hi => (World.cell?_of_block (a := ⟨0, i, none⟩) (hk.same 0 h0)).trans (h.2 i hi)⟩
theorem outside_below {A B : Nat} {X Y : World} (h : Below X.heap.size X Y) : Outside A B X Y := ⟨h.os, h.tape, h.output, h.size, fun k _ hk _ => (h.block k (Array.getElem?_eq_some_iff.1 hk).1).trans hk⟩
theorem row_outside {A B : Nat} {X Y : World} {e : TypeId} {s n : Nat} {v : Value} {xs : List Value} (h : X.ownsRow B e s v n xs) (ho : Outside A B X Y) : Y.ownsRow B e s v n xs := by
  refine ⟨h.1, ?_⟩
  rcases h.2 with hn | ⟨g, cap, cur, rfl, hb1, hg, rest⟩
  · exact .inl hn
  · exact .inr ⟨g, cap, cur, rfl, hb1, ho.block g _ hg (.inr ⟨hb1, rfl⟩), rest⟩
theorem OwnsR.outside {A B : Nat} {X Y : World} {x : RecV} (h : OwnsR X B x) (ho : Outside A B X Y) : OwnsR Y B x :=
  ⟨h.k, ⟨h.e.i, h.e.t, h.e.k, h.e.c, ⟨row_outside h.e.f.u ho, row_outside h.e.f.v ho, h.e.f.iu, h.e.f.iv, h.e.f.lu, h.e.f.lv⟩⟩, h.h, h.i, h.t⟩
def OkR (xs : List Int) (B : Nat) (pre : List (RecV × Nat)) (x : RecV × Nat) (X : World) : Prop := OwnsR X B x.1 ∧ At11 xs (pre ++ [x]) ∧ endR pre < x.2
def FinR (xs : List Int) (pre : List (RecV × Nat)) : Prop := At11 xs pre ∧ scan11 xs = (pre.map (fun x => x.1.r), endR pre)

set_option maxRecDepth 100000 in
set_option maxHeartbeats 200000 in
theorem records1_seq (p : Option Addr) (c Bm : Nat) (xs : List Int) (w : World) (hT : Tab w) (hv : Has w (.slice p xs.length c) xs) (hB : IsB xs) (hl : xs.length ≤ 1073741824) (hm : Boxed w Bm 33 (.slice p xs.length c)) :
    SeqX Tryz.prog 92 #[] #[.pointer (some ⟨Bm, 0, none⟩)] (fun x : RecV × Nat => #[.agg x.1.arr, .int .i64 (x.2 : Nat)]) (recS p xs.length Bm) (OkR xs) (FinR xs) w := by
  intro l J Jx W hK hJ hJx hY h0
  have hS0 : recS p xs.length Bm 0 := .inl rfl
  have hSb : recS p xs.length Bm Bm := .inr (.inl rfl)
  have hSp : ∀ a, p = some a → 0 < xs.length → recS p xs.length Bm a.block := fun a h1 h2 => .inr (.inr ⟨h2, a, h1, rfl⟩)
  have hTW := hT.keepS11 hK hS0
  have hvW := hv.keepS hK hSp
  have hWz := hK.size
  have hmW := hK.box hm hSb
  have hJ0 := h0 W (Below.refl _ _)
  have HSlt : Hid (∀ k, recS p xs.length Bm k → k < W.heap.size) := fun k hk => by
    rcases hk with rfl | rfl | ⟨h1, a, rfl, rfl⟩
    · exact hTW.1
    · exact hmW.lt
    · obtain ⟨q, d, e, _, _, h3⟩ := hvW
      simp only [Value.slice.injEq] at e
      obtain ⟨rfl, _, _⟩ := e
      obtain ⟨b, o, e, hb, _⟩ := h3 h1
      cases e
      exact hb
  have hcc : xs.length ≤ c := by
    obtain ⟨q, d, e, h1, _, _⟩ := hv
    simp only [Value.slice.injEq] at e
    obtain ⟨-, -, rfl⟩ := e
    exact h1
  have HT : Hid (Tab W) := hTW
  have HV : Hid (Has W (.slice p xs.length c) xs) := hvW
  have HM : Hid (Boxed W Bm 33 (.slice p xs.length c)) := hmW
  have HB : Hid (IsB xs) := hB
  have HSp : Hid _ := hSp
  have HJ : Hid _ := hJ
  have HY : Hid _ := hY
  clear hT hv hB hm hK h0 hTW hvW hmW hJx hWz hSp hJ hY
  refine (callsIn_wide (n := 3)).1 ?_
  refine callsIn_of_wp Tryz.func92 rfl trivial ?_ rfl
  simp only [Tryz.ntmps92, List.size_toArray, List.length_cons, List.length_nil, Nat.reduceAdd, Nat.reduceSub, Array.replicate_succ, Array.replicate_zero, List.push_toArray, List.append_toArray, List.nil_append, List.cons_append]
  gi_wp2
  gi_loopw [3] (fun s3 wr => ∃ pre : List (RecV × Nat), s3 = .int .i64 (endR pre : Nat) ∧ W.heap.size ≤ wr.heap.size ∧ Hid (KeepS (recS p xs.length Bm) W wr) ∧ Hid (At11 xs pre) ∧ J W.heap.size pre wr) (fun s3 _ => xs.length - (intOf s3).toNat)
  case atStart => exact ⟨[], rfl, Nat.le_refl _, KeepS.refl _ _, At11.nil xs, hJ0⟩
  case round =>
    clear hJ0
    obtain ⟨pre, rfl, hz, HK, HA, hJr⟩ := hrel
    have hk := HA.out.le
    have hvr := HV.out.keepS HK.out HSp.out
    have y0 : wr.cell? ⟨Bm, 0, none⟩ = some (.slice p xs.length c) := (HK.out.box HM.out hSb).cell
    have hlen : (xs.drop (endR pre)).length = xs.length - endR pre := List.length_drop
    have hBd : IsB (xs.drop (endR pre)) := fun z hz => HB.out z (List.mem_of_mem_drop hz)
    have ku := unframe_any _ _ wr (HT.out.keepS11 HK.out hS0) (hvr.cutV (endR pre) hk) (by omega) hBd
    have hul := @unframe_len (xs.drop (endR pre))
    have hiu := unframe_isB hBd
    have HS := HA.out.scan
    have H1 : Hid (¬ ((unframeS (xs.drop (endR pre))).2.2 = 0 ∧ (readR11 (unframeS (xs.drop (endR pre))).1).2 = true) → scan11 (xs.drop (endR pre)) = ([], 0)) := scan_none
    have H2 : Hid ((unframeS (xs.drop (endR pre))).2.2 = 0 ∧ (readR11 (unframeS (xs.drop (endR pre))).1).2 = true → scan11 (xs.drop (endR pre)) = ((readR11 (unframeS (xs.drop (endR pre))).1).1 :: (scan11 ((xs.drop (endR pre)).drop (unframeS (xs.drop (endR pre))).2.1.toNat)).1, (unframeS (xs.drop (endR pre))).2.1.toNat + (scan11 ((xs.drop (endR pre)).drop (unframeS (xs.drop (endR pre))).2.1.toNat)).2)) := scan_cons
    have HFin : Hid (scan11 (xs.drop (endR pre)) = ([], 0) → FinR xs pre) := fun h => ⟨HA.out, by rw [HS, h, List.append_nil, Nat.add_zero]⟩
    have HNext : Hid (∀ (x : RecV) (m : Nat) (q : Rec11), x.r = q → 8 ≤ m → endR pre + m ≤ xs.length → scan11 (xs.drop (endR pre)) = (q :: (scan11 (xs.drop (endR pre + m))).1, m + (scan11 (xs.drop (endR pre + m))).2) → At11 xs (pre ++ [(x, endR pre + m)])) := fun x m q hx hm hle h => by
      have hl2 := HA.out.len
      refine ⟨by rw [endR_app]; exact hle, by rw [endR_app, List.length_append, List.length_singleton]; show _ ≤ endR pre + m; omega, ?_⟩
      rw [endR_app, HS, h]
      simp [hx, Nat.add_assoc]
    rw [List.drop_drop] at H2
    generalize unframeS (xs.drop (endR pre)) = U at *
    obtain ⟨cx, cn, ce⟩ := U
    dsimp only at ku hul hiu H1 H2
    generalize hkd : endR pre = kd at *
    have hlb : Bm < wr.heap.size := Nat.lt_of_lt_of_le (HSlt.out Bm hSb) hz
    clear HS hvr hBd
    by_cases he : ce = 0
    case neg =>
      have he' : (ce != 0) = true := by simpa using he
      have HF : Hid (FinR xs pre) := HFin.out (H1.out fun h => he h.1)
      clear H1 H2 HFin HNext hul hiu
      gi_wp2_with (refine ⟨trivial, ?_⟩; gi_at_call 93; refine (callsIn_wide.2 ku).mono ?_; rintro _ w1 ⟨v1, rfl, h1, hb1⟩)
      refine bodyPost_ret (results_none rfl _ _ _) rfl ?_
      exact ⟨⟨_, rfl⟩, W.heap.size, pre, Nat.le_refl _, .inl ⟨HF.out, HJ.out _ _ wr _ (Nat.le_refl _) hJr (outside_below hb1)⟩⟩
    subst he
    obtain ⟨l1, l2, l3, l4⟩ := hul rfl
    obtain ⟨m, rfl⟩ : ∃ m : Nat, cn = (m : Int) := ⟨cn.toNat, by omega⟩
    rw [Int.toNat_natCast] at l1 l2 l3 H2
    have KR : Hid (∀ W1 v1, Has W1 v1 cx → Calls Tryz.prog 94 #[v1] W1 fun e w' => ∃ X : RecV, e = .returned (.tuple #[.agg X.arr, .bool (readR11 cx).2]) ∧ ((readR11 cx).2 = true → X.r = (readR11 cx).1) ∧ OwnsR w' W1.heap.size X ∧ Below W1.heap.size W1 w') := fun W1 v1 h => readP_any v1 cx W1 h hiu (by omega)
    clear hul hiu
    generalize readR11 cx = Q at *
    obtain ⟨q, ok⟩ := Q
    dsimp only at KR H1 H2
    cases ok with
    | false =>
      have HF : Hid (FinR xs pre) := HFin.out (H1.out fun h => by cases h.2)
      clear H1 H2 HFin HNext
      gi_wp2_with (first
        | (refine ⟨trivial, ?_⟩; gi_at_call 93; (with_reducible refine (callsIn_wide.2 ku).mono ?_); rintro _ w1 ⟨v1, rfl, h1, hb1⟩; have kr := KR.out w1 v1 h1)
        | (refine ⟨trivial, ?_⟩; gi_at_call 94; (with_reducible refine (callsIn_wide.2 kr).mono ?_); rintro _ w2 ⟨⟨x0, ⟨xi, xt, xk, ⟨ck, cs, cq, ckey, cold, cval, cunt, clim⟩, ⟨⟨p1, n1, c1⟩, ⟨q1, m1, d1⟩, f1⟩⟩, ⟨ht, hv', hc'⟩, ri, rt⟩, rfl, HX, hO2, hb2⟩; dsimp only [RecV.arr] at *; have hbx := heap_alloc_new w2 (.cells #[.int .i64 0, .int .i64 0, .int .i64 0, .int .i64 0, .int .i64 0, .int .i64 0, .int .i64 0, .string ⟨#[]⟩, .string ⟨#[]⟩, .string ⟨#[]⟩, .string ⟨#[]⟩, .int .i64 0, .slice none 0 0, .slice none 0 0, .int .i64 0, .int .i64 0, .int .i64 0, .int .i64 0, .int .i64 0] 32); have hth := there_box hbx 0 19 (Nat.le_refl _); have hB3 : Below wr.heap.size wr ((w2.alloc (.cells #[.int .i64 0, .int .i64 0, .int .i64 0, .int .i64 0, .int .i64 0, .int .i64 0, .int .i64 0, .string ⟨#[]⟩, .string ⟨#[]⟩, .string ⟨#[]⟩, .string ⟨#[]⟩, .int .i64 0, .slice none 0 0, .slice none 0 0, .int .i64 0, .int .i64 0, .int .i64 0, .int .i64 0, .int .i64 0] 32)).setCells w2.heap.size 0 [.int .i64 x0, .int .i64 xi, .int .i64 xt, .int .i64 xk, .int .i64 ck, .int .i64 cs, .int .i64 cq, .string ckey, .string cold, .string cval, .string cunt, .int .i64 clim, .slice p1 n1 c1, .slice q1 m1 d1, .int .i64 ht, .int .i64 hv', .int .i64 hc', .int .i64 ri, .int .i64 rt]) := (hb1.trans (hb2.mono hb1.size)).trans ((setCells_below (Nat.le_refl _) _ _ ((Below.refl _ _).alloc (Nat.le_refl _) _)).mono (Nat.le_trans hb1.size hb2.size))))
      refine bodyPost_ret (results_none rfl _ _ _) rfl ?_
      exact ⟨⟨_, rfl⟩, W.heap.size, pre, Nat.le_refl _, .inl ⟨HF.out, HJ.out _ _ wr _ (Nat.le_refl _) hJr (outside_below hB3)⟩⟩
    | true =>
      have HNx : Hid (∀ x : RecV, x.r = q → At11 xs (pre ++ [(x, kd + m)])) := fun x hx => HNext.out x m q hx l1 (by omega) (H2.out ⟨rfl, rfl⟩)
      have HKd : Hid (endR pre = kd) := hkd
      clear H1 H2 HFin HNext hkd
      gi_wp2_with (refine ⟨trivial, ?_⟩; gi_at_call 93; (with_reducible refine (callsIn_wide.2 ku).mono ?_); rintro _ w1 ⟨v1, rfl, h1, hb1⟩; have kr := KR.out w1 v1 h1)
      refine ⟨trivial, ?_⟩
      refine (callsIn_wide.2 kr).mono ?_
      rintro _ w2 ⟨⟨x0, ⟨xi, xt, xk, ⟨ck, cs, cq, ckey, cold, cval, cunt, clim⟩, ⟨⟨p1, n1, c1⟩, ⟨q1, m1, d1⟩, f1⟩⟩, ⟨ht, hv', hc'⟩, ri, rt⟩, rfl, HX, hO2, hb2⟩
      dsimp only [RecV.arr] at *
      have hbx := heap_alloc_new w2 (.cells #[.int .i64 0, .int .i64 0, .int .i64 0, .int .i64 0, .int .i64 0, .int .i64 0, .int .i64 0, .string ⟨#[]⟩, .string ⟨#[]⟩, .string ⟨#[]⟩, .string ⟨#[]⟩, .int .i64 0, .slice none 0 0, .slice none 0 0, .int .i64 0, .int .i64 0, .int .i64 0, .int .i64 0, .int .i64 0] 32)
      have hth := there_box hbx 0 19 (Nat.le_refl _)
      have hB3 : Below wr.heap.size wr ((w2.alloc (.cells #[.int .i64 0, .int .i64 0, .int .i64 0, .int .i64 0, .int .i64 0, .int .i64 0, .int .i64 0, .string ⟨#[]⟩, .string ⟨#[]⟩, .string ⟨#[]⟩, .string ⟨#[]⟩, .int .i64 0, .slice none 0 0, .slice none 0 0, .int .i64 0, .int .i64 0, .int .i64 0, .int .i64 0, .int .i64 0] 32)).setCells w2.heap.size 0 [.int .i64 x0, .int .i64 xi, .int .i64 xt, .int .i64 xk, .int .i64 ck, .int .i64 cs, .int .i64 cq, .string ckey, .string cold, .string cval, .string cunt, .int .i64 clim, .slice p1 n1 c1, .slice q1 m1 d1, .int .i64 ht, .int .i64 hv', .int .i64 hc', .int .i64 ri, .int .i64 rt]) := (hb1.trans (hb2.mono hb1.size)).trans ((setCells_below (Nat.le_refl _) _ _ ((Below.refl _ _).alloc (Nat.le_refl _) _)).mono (Nat.le_trans hb1.size hb2.size))
      have hbx3 := setCells_box hbx 0 [.int .i64 x0, .int .i64 xi, .int .i64 xt, .int .i64 xk, .int .i64 ck, .int .i64 cs, .int .i64 cq, .string ckey, .string cold, .string cval, .string cunt, .int .i64 clim, .slice p1 n1 c1, .slice q1 m1 d1, .int .i64 ht, .int .i64 hv', .int .i64 hc', .int .i64 ri, .int .i64 rt] #[.int .i64 x0, .int .i64 xi, .int .i64 xt, .int .i64 xk, .int .i64 ck, .int .i64 cs, .int .i64 cq, .string ckey, .string cold, .string cval, .string cunt, .int .i64 clim, .slice p1 n1 c1, .slice q1 m1 d1, .int .i64 ht, .int .i64 hv', .int .i64 hc', .int .i64 ri, .int .i64 rt] (Nat.le_refl _) rfl
      have hld3 := ldW_box _ _ _ _ _ hbx3 rfl
      have hl3 := box_lt hbx3
      have HB3 : Hid _ := hB3
      have hJ3 := HJ.out _ _ wr _ (Nat.le_refl _) hJr (outside_below hB3)
      have HO3 : Hid (OwnsR ((w2.alloc (.cells #[.int .i64 0, .int .i64 0, .int .i64 0, .int .i64 0, .int .i64 0, .int .i64 0, .int .i64 0, .string ⟨#[]⟩, .string ⟨#[]⟩, .string ⟨#[]⟩, .string ⟨#[]⟩, .int .i64 0, .slice none 0 0, .slice none 0 0, .int .i64 0, .int .i64 0, .int .i64 0, .int .i64 0, .int .i64 0] 32)).setCells w2.heap.size 0 [.int .i64 x0, .int .i64 xi, .int .i64 xt, .int .i64 xk, .int .i64 ck, .int .i64 cs, .int .i64 cq, .string ckey, .string cold, .string cval, .string cunt, .int .i64 clim, .slice p1 n1 c1, .slice q1 m1 d1, .int .i64 ht, .int .i64 hv', .int .i64 hc', .int .i64 ri, .int .i64 rt]) W.heap.size ⟨x0, ⟨xi, xt, xk, ⟨ck, cs, cq, ckey, cold, cval, cunt, clim⟩, ⟨⟨p1, n1, c1⟩, ⟨q1, m1, d1⟩, f1⟩⟩, ⟨ht, hv', hc'⟩, ri, rt⟩) := (hO2.below (setCells_below (Nat.le_refl _) _ _ ((Below.refl _ _).alloc (Nat.le_refl _) _))).mono (Nat.le_trans hz hb1.size)
      have HA3 : Hid (At11 xs (pre ++ [(⟨x0, ⟨xi, xt, xk, ⟨ck, cs, cq, ckey, cold, cval, cunt, clim⟩, ⟨⟨p1, n1, c1⟩, ⟨q1, m1, d1⟩, f1⟩⟩, ⟨ht, hv', hc'⟩, ri, rt⟩, kd + m)])) := HNx.out _ (HX (by first | rfl | trivial))
      obtain ⟨fn, tmps, assign, body, hy, hR⟩ := YieldAt.wide (m' := 2) (HY.out W.heap.size pre (⟨x0, ⟨xi, xt, xk, ⟨ck, cs, cq, ckey, cold, cval, cunt, clim⟩, ⟨⟨p1, n1, c1⟩, ⟨q1, m1, d1⟩, f1⟩⟩, ⟨ht, hv', hc'⟩, ri, rt⟩, kd + m) ((w2.alloc (.cells #[.int .i64 0, .int .i64 0, .int .i64 0, .int .i64 0, .int .i64 0, .int .i64 0, .int .i64 0, .string ⟨#[]⟩, .string ⟨#[]⟩, .string ⟨#[]⟩, .string ⟨#[]⟩, .int .i64 0, .slice none 0 0, .slice none 0 0, .int .i64 0, .int .i64 0, .int .i64 0, .int .i64 0, .int .i64 0] 32)).setCells w2.heap.size 0 [.int .i64 x0, .int .i64 xi, .int .i64 xt, .int .i64 xk, .int .i64 ck, .int .i64 cs, .int .i64 cq, .string ckey, .string cold, .string cval, .string cunt, .int .i64 clim, .slice p1 n1 c1, .slice q1 m1 d1, .int .i64 ht, .int .i64 hv', .int .i64 hc', .int .i64 ri, .int .i64 rt]) (Nat.le_refl _) (Nat.le_trans hz hB3.size) ⟨HO3.out, HA3.out, by rw [HKd.out]; show kd < kd + m; omega⟩ hJ3)
      dsimp only [RecV.arr] at hy
      rw [Int.natCast_add] at hy
      clear hbx3 hJ3 hO2 HX
      gi_wp2
      refine hR.mono ?_
      clear hR hy hld3
      rintro e Z ⟨bb, rfl, hk1, hk2, hb⟩
      have hzZ := hk1.size
      have hz3 := HB3.out.size
      have HKZ : Hid (KeepS (recS p xs.length Bm) W Z) := (HK.out.trans (KeepS.of_below HB3.out (fun k hk => Nat.lt_of_lt_of_le (HSlt.out k hk) hz))).trans hk1
      clear hk1 hk2 HB3
      cases bb with
      | true =>
        rw [if_pos rfl] at hb
        gi_wp2
        go_roundw
        case rel => exact ⟨pre ++ [(⟨x0, ⟨xi, xt, xk, ⟨ck, cs, cq, ckey, cold, cval, cunt, clim⟩, ⟨⟨p1, n1, c1⟩, ⟨q1, m1, d1⟩, f1⟩⟩, ⟨ht, hv', hc'⟩, ri, rt⟩, kd + m)], by rw [endR_app, Int.natCast_add], by omega, HKZ, HA3, hb⟩
        case measure => simp only [intOf]; omega
      | false =>
        rw [if_neg (by simp)] at hb
        gi_wp2
        refine bodyPost_ret (results_none rfl _ _ _) rfl ?_
        exact ⟨⟨_, rfl⟩, W.heap.size, _, Nat.le_refl _, .inr hb⟩
end Go.Proofs.YtkbbhllchombdaaGreatDoor

namespace Go.Proofs.YtkbbhllchombdaaGreatDoor
open Go.RowKit Go.Shelf
attribute [local go_sem ↓] ldE_exec stE_exec ldE_execI stE_execI ldE_run ldE_box stE_box ldC_exec stC_exec ldC_execI stC_execI ldC_run ldW_exec stW_exec ldW_execI stW_execI ldW_box stW_box ldR_exec stR_exec ldR_execI stR_execI ldT_exec stT_exec ldT_execI stT_execI ldT_box ldU_exec stU_exec ldU_execI stU_execI ldH_exec stH_exec ldH_execI stH_execI ldH_run ldH_box stH_box oc_int oc_bool oc_string oc_slice oc_pointer
theorem elemW11 : Elem8 Tryz.prog 38 32 19 216 := elem8 Tryz.underlying38 (z := .agg noRV.arr) (by kernel_rfl) rfl (by decide)
theorem infoW11 : (Tryz.prog.info? 32).map (fun i => (i.zero, i.size, i.bytes)) = some (some (.agg noRV.arr), 19, 216) := by kernel_rfl
theorem RowR.outside {T A B : Nat} {X Y : World} {u : Value} {l : List RecV} (h : RowR T X B u l) (ho : Outside A B X Y) : RowR T Y B u l := ⟨row_outside h.row ho, fun x hx => (h.all x hx).outside ho⟩

set_option maxRecDepth 100000 in
set_option maxHeartbeats 400000 in
theorem scan11_any (v : Value) (xs : List Int) (w : World) (hT : Tab w) (hv : Has w v xs) (hB : IsB xs) (hl : xs.length ≤ 1073741824) :
    Calls Tryz.prog 10 #[v] w fun e w' => ∃ (p : Option Addr) (n c : Nat) (l : List RecV), e = .returned (.tuple #[.slice p n c, .int .i64 ((scan11 xs).2 : Nat)]) ∧ RowR 32 w' w.heap.size (.slice p n c) l ∧ l.map RecV.r = (scan11 xs).1 ∧ Below w.heap.size w w' := by
  obtain ⟨p, c, rfl, -⟩ := id hv
  generalize hs : w.heap.size = s at *
  have h1 := Boxed.new w 38 (.slice none 0 0)
  have h2 := Boxed.new (w.alloc (.cells #[.slice none 0 0] 38)) 3 (.int .i64 0)
  have h3 := Boxed.new ((w.alloc (.cells #[.slice none 0 0] 38)).alloc (.cells #[.int .i64 0] 3)) 33 (.slice p xs.length c)
  have hz2 : ((w.alloc (.cells #[.slice none 0 0] 38)).alloc (.cells #[.int .i64 0] 3)).heap.size = s + 2 := by simp; omega
  have hB2 : Below s w ((w.alloc (.cells #[.slice none 0 0] 38)).alloc (.cells #[.int .i64 0] 3)) := ((Below.refl _ w).alloc (by omega) _).alloc (by simp; omega) _
  rw [hs] at h1
  rw [World.size_alloc, hs] at h2
  rw [hz2] at h3
  replace h1 := h1.alloc (.cells #[.int .i64 0] 3)
  have kr := records_any p xs.length c ((w.alloc (.cells #[.slice none 0 0] 38)).alloc (.cells #[.int .i64 0] 3))
  rw [hz2] at kr
  refine (callsIn_wide (n := 9)).1 ?_
  refine callsIn_of_wp_marks Tryz.func10 rfl trivial ?_ rfl
  simp only [Tryz.ntmps10, List.size_toArray, List.length_cons, List.length_nil, Nat.reduceAdd, Nat.reduceSub, Array.replicate_succ, Array.replicate_zero, List.push_toArray, List.append_toArray, List.nil_append, List.cons_append]
  gi_wp2_with fail
  refine ⟨trivial, (callsIn_wide.2 kr).mono ?_⟩
  rintro e X3 ⟨rfl, hX3⟩
  have hBA : Below ((w.alloc (.cells #[.slice none 0 0] 38)).alloc (.cells #[.int .i64 0] 3)).heap.size ((w.alloc (.cells #[.slice none 0 0] 38)).alloc (.cells #[.int .i64 0] 3)) X3 := by rw [hX3]; exact (Below.refl _ _).alloc (Nat.le_refl _) _
  rw [← hX3] at h3
  have hz3 : X3.heap.size = s + 3 := by rw [hX3]; simp; omega
  rw [hz2] at hBA
  replace h1 : Boxed X3 s 38 (.slice none 0 0) := (hBA.block _ (by omega)).trans h1
  replace h2 : Boxed X3 (s + 1) 3 (.int .i64 0) := (hBA.block _ (by omega)).trans h2
  have hB3 : Below s w X3 := hB2.trans (hBA.mono (by omega))
  have hTX := hT.below hB3 (by omega)
  have hvX := hv.below hB3 (by omega)
  have hseq := records1_seq p c (s + 2) xs X3 hTX hvX hB hl h3
  have hlt : ∀ k, recS p xs.length (s + 2) k → k < X3.heap.size := fun k hk => by
    rcases hk with rfl | rfl | ⟨h0, a, rfl, rfl⟩
    · exact hTX.1
    · omega
    · obtain ⟨q, d, e, _, _, h4⟩ := hvX
      simp only [Value.slice.injEq] at e
      obtain ⟨rfl, _, _⟩ := e
      obtain ⟨b, o, e, hb, _⟩ := h4 h0
      cases e
      exact hb
  have hno : ∀ k, recS p xs.length (s + 2) k → k ≠ s ∧ k ≠ s + 1 := fun k hk => by
    rcases hk with rfl | rfl | ⟨h0, a, rfl, rfl⟩
    · have := hT.1; omega
    · omega
    · obtain ⟨q, d, e, _, _, h4⟩ := hv
      simp only [Value.slice.injEq] at e
      obtain ⟨rfl, _, _⟩ := e
      obtain ⟨b, o, e, hb, _⟩ := h4 h0
      cases e
      show b ≠ s ∧ b ≠ s + 1
      omega
  have HNo : Hid _ := hno
  have HLt : Hid _ := hlt
  have HSeq : Hid _ := hseq
  clear hX3 hB2 hBA hz2 kr hT hv hB hTX hvX h3 hno hlt hseq
  gi_wp2
  refine range_seqX (m := 7) (gf := 92) (fb := #[]) (lb := #[.pointer (some ⟨s + 2, 0, none⟩)]) rfl (enters_of Tryz.func92 (by kernel_rfl) rfl) HSeq.out HLt.out (fun _ => rfl)
    (fun B pre X => (∃ (pu : Option Addr) (nu cu : Nat), Boxed X s 38 (.slice pu nu cu) ∧ RowR 32 X B (.slice pu nu cu) (pre.map Prod.fst)) ∧ Boxed X (s + 1) 3 (.int .i64 (endR pre : Nat)) ∧ Below s w X ∧ s + 3 ≤ X.heap.size ∧ At11 xs pre)
    (fun _ _ _ _ => False) ?hI ?hIx ?h0
    (fun B pre x a' X => ∃ bx, B ≤ bx ∧ X.heap[bx]? = some (.cells x.1.arr 32 (0, 0)) ∧ a' = { tmps := #[.slice p xs.length c, undef, .slice none 0 0, .int .i64 0, .pointer (some ⟨s, 0, none⟩), .pointer (some ⟨s + 1, 0, none⟩), .pointer (some ⟨bx, 0, none⟩), .int .i64 (x.2 : Nat), .slice p xs.length c, .func (.func 92) #[] #[.pointer (some ⟨s + 2, 0, none⟩)], .agg x.1.arr, .int .i64 (x.2 : Nat), undef, undef, undef, undef, undef, undef, undef], defers := [] }) ?hOk ?hAx ?hassign ?hbody ?done ?stop
  case hI =>
    rintro B pre X Y hB ⟨⟨pu, nu, cu, d1, d2⟩, d3, d4, d5, d6⟩ ho
    have hoz := ho.size
    exact ⟨⟨pu, nu, cu, ho.box d1 (.inl (by omega)), d2.outside ho⟩, ho.box d3 (.inl (by omega)), d4.trans (ho.below (by omega) (by omega)), by omega, d6⟩
  case hIx => exact fun _ _ _ _ _ _ h _ => h
  case h0 =>
    intro X hX hX2
    exact ⟨⟨none, 0, 0, (hX.block _ (by omega)).trans h1, RowR.nil _ _ _⟩, (hX.block _ (by omega)).trans h2, hB3.trans (hX.mono (by omega)), by omega, At11.nil xs⟩
  case stop => exact fun _ _ _ _ _ h _ => h.elim
  case hOk =>
    rintro B pre x X Y hB ⟨o1, o2, o3⟩ ho
    exact ⟨o1.outside ho, o2, o3⟩
  case hAx =>
    rintro B pre x a' X Y hB ⟨bx, b1, b2, b3⟩ ho
    exact ⟨bx, b1, ho.block bx _ b2 (.inr ⟨b1, rfl⟩), b3⟩
  case hassign =>
    rintro l B pre ⟨⟨x0, ⟨xi, xt, xk, ⟨ck, cs, cq, ckey, cold, cval, cunt, clim⟩, ⟨⟨p1, n1, c1⟩, ⟨q1, m1, d1⟩, f1⟩⟩, ⟨ht, hv', hc'⟩, ri, rt⟩, en⟩ X K hB hBX hok hK
    have hsem := @Oper.semAt_some l
    clear hok
    dsimp only [RecV.arr]
    have hbx := heap_alloc_new X (.cells #[.int .i64 0, .int .i64 0, .int .i64 0, .int .i64 0, .int .i64 0, .int .i64 0, .int .i64 0, .string ⟨#[]⟩, .string ⟨#[]⟩, .string ⟨#[]⟩, .string ⟨#[]⟩, .int .i64 0, .slice none 0 0, .slice none 0 0, .int .i64 0, .int .i64 0, .int .i64 0, .int .i64 0, .int .i64 0] 32)
    have hth := there_box hbx 0 19 (Nat.le_refl _)
    have hbx3 := setCells_box hbx 0 [.int .i64 x0, .int .i64 xi, .int .i64 xt, .int .i64 xk, .int .i64 ck, .int .i64 cs, .int .i64 cq, .string ckey, .string cold, .string cval, .string cunt, .int .i64 clim, .slice p1 n1 c1, .slice q1 m1 d1, .int .i64 ht, .int .i64 hv', .int .i64 hc', .int .i64 ri, .int .i64 rt] #[.int .i64 x0, .int .i64 xi, .int .i64 xt, .int .i64 xk, .int .i64 ck, .int .i64 cs, .int .i64 cq, .string ckey, .string cold, .string cval, .string cunt, .int .i64 clim, .slice p1 n1 c1, .slice q1 m1 d1, .int .i64 ht, .int .i64 hv', .int .i64 hc', .int .i64 ri, .int .i64 rt] (Nat.le_refl _) rfl
    have hb3 : Below X.heap.size X ((X.alloc (.cells #[.int .i64 0, .int .i64 0, .int .i64 0, .int .i64 0, .int .i64 0, .int .i64 0, .int .i64 0, .string ⟨#[]⟩, .string ⟨#[]⟩, .string ⟨#[]⟩, .string ⟨#[]⟩, .int .i64 0, .slice none 0 0, .slice none 0 0, .int .i64 0, .int .i64 0, .int .i64 0, .int .i64 0, .int .i64 0] 32)).setCells X.heap.size 0 [.int .i64 x0, .int .i64 xi, .int .i64 xt, .int .i64 xk, .int .i64 ck, .int .i64 cs, .int .i64 cq, .string ckey, .string cold, .string cval, .string cunt, .int .i64 clim, .slice p1 n1 c1, .slice q1 m1 d1, .int .i64 ht, .int .i64 hv', .int .i64 hc', .int .i64 ri, .int .i64 rt]) := setCells_below (Nat.le_refl _) _ _ ((Below.refl _ _).alloc (Nat.le_refl _) _)
    have HK : Hid _ := hK
    clear hK
    gi_wp2
    exact HK.out _ _ hb3 ⟨X.heap.size, hBX, hbx3, rfl⟩
  case hbody =>
    rintro l B pre ⟨⟨x0, ⟨xi, xt, xk, ⟨ck, cs, cq, ckey, cold, cval, cunt, clim⟩, ⟨⟨p1, n1, c1⟩, ⟨q1, m1, d1⟩, f1⟩⟩, ⟨ht, hv', hc'⟩, ri, rt⟩, en⟩ a' X hB hBX ⟨o1, o2, -⟩ ⟨⟨pu, nu, cu, zz1, zz2⟩, zz3, zz4, zz5, zz6⟩ ⟨bx, b1, b2, rfl⟩
    have hsem := @Oper.semAt_some l
    obtain ⟨i1, hi1, hz1, hs1, hby1⟩ := info_parts infoW11
    have hlen : (pre.map Prod.fst).length ≤ 1073741824 := by
      rw [List.length_map]
      exact Nat.le_trans zz6.len (Nat.le_trans zz6.le hl)
    dsimp only at o1 o2 b2
    obtain ⟨hP1, -, hP3⟩ := zz2.push o1 (by decide) hBX
    have hone := rarr_cell ⟨x0, ⟨xi, xt, xk, ⟨ck, cs, cq, ckey, cold, cval, cunt, clim⟩, ⟨⟨p1, n1, c1⟩, ⟨q1, m1, d1⟩, f1⟩⟩, ⟨ht, hv', hc'⟩, ri, rt⟩
    have hnew := new_row X (RecV.arr ⟨x0, ⟨xi, xt, xk, ⟨ck, cs, cq, ckey, cold, cval, cunt, clim⟩, ⟨⟨p1, n1, c1⟩, ⟨q1, m1, d1⟩, f1⟩⟩, ⟨ht, hv', hc'⟩, ri, rt⟩) 32
    have HP3 : Hid _ := hP3
    have HO2 : Hid (At11 xs (pre ++ [(⟨x0, ⟨xi, xt, xk, ⟨ck, cs, cq, ckey, cold, cval, cunt, clim⟩, ⟨⟨p1, n1, c1⟩, ⟨q1, m1, d1⟩, f1⟩⟩, ⟨ht, hv', hc'⟩, ri, rt⟩, en)])) := o2
    have HA : Hid (Boxed (X.alloc (.cells (RecV.arr ⟨x0, ⟨xi, xt, xk, ⟨ck, cs, cq, ckey, cold, cval, cunt, clim⟩, ⟨⟨p1, n1, c1⟩, ⟨q1, m1, d1⟩, f1⟩⟩, ⟨ht, hv', hc'⟩, ri, rt⟩) 32)) s 38 (.slice pu nu cu) ∧ Boxed (X.alloc (.cells (RecV.arr ⟨x0, ⟨xi, xt, xk, ⟨ck, cs, cq, ckey, cold, cval, cunt, clim⟩, ⟨⟨p1, n1, c1⟩, ⟨q1, m1, d1⟩, f1⟩⟩, ⟨ht, hv', hc'⟩, ri, rt⟩) 32)) (s + 1) 3 (.int .i64 (endR pre : Nat))) := ⟨zz1.alloc _, zz3.alloc _⟩
    have HU : Hid (∀ k, (Value.slice pu nu cu).ownBlock = some k → B ≤ k) := fun k hk => (World.ownsRow.lt zz2.row k hk).1
    have HD4 : Hid (Below s w X) := zz4
    have e1 := zz1.cell
    clear zz2 zz3 zz6 o1 o2 hP3 zz4
    dsimp only [RecV.arr] at *
    have hld := ldW_box X _ _ _ _ b2 rfl
    have hlb := box_lt b2
    clear b2
    have HL : Hid (pre.map Prod.fst = pre.map Prod.fst) := rfl
    generalize hL : pre.map Prod.fst = L at *
    replace HL : Hid (pre.map Prod.fst = L) := hL
    clear hL
    gi_wp2_with (gi_at_builtin; refine wpListIn_append_own _ rfl _ _ 38 rfl B 32 i1 (.agg noRV.arr) 19 216 Tryz.underlying38 hi1 hz1 hs1 hby1 rfl (by decide) (.slice pu nu cu) L.length (recsV L) rfl hP1 ⟨X.heap.size, 0, none⟩ 1 1 [.int .i64 x0, .int .i64 xi, .int .i64 xt, .int .i64 xk, .int .i64 ck, .int .i64 cs, .int .i64 cq, .string ckey, .string cold, .string cval, .string cunt, .int .i64 clim, .slice p1 n1 c1, .slice q1 m1 d1, .int .i64 ht, .int .i64 hv', .int .i64 hc', .int .i64 ri, .int .i64 rt] rfl rfl hnew hone (by unfold maxLen; omega) (by omega) (by simp; omega) ?_; intro v5 w5 ho5 hg5 _; obtain ⟨pv, nv, cv, rfl⟩ := row_shape11 ho5; have qa : Boxed w5 s 38 (.slice pu nu cu) := (hg5.block _ (by simp; omega) (by intro e; have := HU.out s e.symm; omega)).trans HA.out.1; have qb : Boxed w5 (s + 1) 3 (.int .i64 (endR pre : Nat)) := (hg5.block _ (by simp; omega) (by intro e; have := HU.out (s + 1) e.symm; omega)).trans HA.out.2; have ca := qa.cell; have cb := qb.cell; have fa := qa.frozen; have fb := qb.frozen)
    obtain ⟨hE1, hE2⟩ := HP3.out w5 _ ho5 hg5
    have hz5 := hg5.size
    have hzA : (X.alloc (.cells #[.int .i64 x0, .int .i64 xi, .int .i64 xt, .int .i64 xk, .int .i64 ck, .int .i64 cs, .int .i64 cq, .string ckey, .string cold, .string cval, .string cunt, .int .i64 clim, .slice p1 n1 c1, .slice q1 m1 d1, .int .i64 ht, .int .i64 hv', .int .i64 hc', .int .i64 ri, .int .i64 rt] 32)).heap.size = X.heap.size + 1 := by simp
    have hkeep : ∀ k, k < B → k ≠ s → k ≠ s + 1 → ((w5.setCell ⟨s, 0, none⟩ (.slice pv nv cv)).setCell ⟨s + 1, 0, none⟩ (.int .i64 (en : Nat))).heap[k]? = X.heap[k]? := fun k hk a1 a2 => (Below.heap_setCell _ _ _ _ (by show k ≠ s + 1; exact a2)).trans ((Below.heap_setCell _ _ _ _ (by show k ≠ s; exact a1)).trans (hE2.block k hk))
    have hsz : X.heap.size ≤ ((w5.setCell ⟨s, 0, none⟩ (.slice pv nv cv)).setCell ⟨s + 1, 0, none⟩ (.int .i64 (en : Nat))).heap.size := by
      have a1 := (KeepsWalks.setCell w5 ⟨s, 0, none⟩ (.slice pv nv cv)).size
      have a2 := (KeepsWalks.setCell (w5.setCell ⟨s, 0, none⟩ (.slice pv nv cv)) ⟨s + 1, 0, none⟩ (.int .i64 (en : Nat))).size
      omega
    refine ⟨⟨hsz, fun k hk => ?_⟩, ⟨hsz, fun k a1 a2 => hkeep k a2 (by omega) (by omega)⟩, ⟨pv, nv, cv, ?_, ?_⟩, ?_, ?_, by omega, HO2.out⟩
    · exact hkeep k (by have := HLt.out k hk; omega) (HNo.out k hk).1 (HNo.out k hk).2
    · exact (Below.heap_setCell _ _ _ _ (by show s ≠ s + 1; omega)).trans (qa.set _)
    · rw [List.map_append, HL.out]
      exact (hE1.outside (Outside.setCell (A := s) w5 (p := ⟨s, 0, none⟩) (Nat.le_refl _) (by show s < B; omega) (.slice pv nv cv))).outside (Outside.setCell (A := s) _ (p := ⟨s + 1, 0, none⟩) (by show s ≤ s + 1; omega) (by show s + 1 < B; omega) _)
    · rw [endR_app]
      have hb2 : Boxed (w5.setCell ⟨s, 0, none⟩ (.slice pv nv cv)) (s + 1) 3 (.int .i64 (endR pre : Nat)) := (Below.heap_setCell w5 ⟨s, 0, none⟩ _ (s + 1) (by show s + 1 ≠ s; omega)).trans qb
      exact hb2.set _
    · exact ((HD4.out.trans (hE2.mono (by omega))).setCell (p := ⟨s, 0, none⟩) (Nat.le_refl _) _).setCell (p := ⟨s + 1, 0, none⟩) (by show s ≤ s + 1; omega) _
  case done =>
    rintro B pre X hB hF ⟨⟨pu, nu, cu, d1, d2⟩, d3, d4, d5, d6⟩ hD
    rw [hz3] at hD
    have e1 := d1.cell
    have e2 := d3.cell
    have e1' : X.drew.cell? ⟨s, 0, none⟩ = some (.slice pu nu cu) := e1
    have e2' : X.drew.cell? ⟨s + 1, 0, none⟩ = some (.int .i64 (endR pre : Nat)) := e2
    have hD2 : X.drew.heap[s + 3]? = some (.deferred (some [])) := hD
    have HFin : Hid (FinR xs pre) := hF
    have HRow : Hid (RowR 32 X B (.slice pu nu cu) (pre.map Prod.fst)) := d2
    have HBl : Hid (Below s w X) := d4
    rw [hz3]
    clear d1 d2 d3 d4 d6 hF hD h1 h2 HSeq HNo HLt hB3
    gi_wp2
    gi_region
    gi_wp2
    refine ⟨by simp, .inl ⟨_, _, rfl, run_takeDeferred hD2, ?_⟩⟩
    have hP : Outside s B X.drew (X.drew.putObj (s + 3) (.deferred none)) := Outside.putObj _ (by omega) hD2 rfl
    have hXd : Outside s B X X.drew := Outside.drew _ _ _
    refine ⟨_, results_tmp2 rfl _ _ _, pu, nu, cu, pre.map Prod.fst, ?_, ?_, ?_, ?_⟩
    · rw [HFin.out.2]; rfl
    · have hr := (HRow.out.outside hXd).outside hP
      exact ⟨row_mono hr.row (by omega), fun x hx => (hr.all x hx).mono (by omega)⟩
    · rw [HFin.out.2, List.map_map]; rfl
    · have := HBl.out.size
      exact HBl.out.trans ((hXd.trans hP).below (by omega) (by omega))
end Go.Proofs.YtkbbhllchombdaaGreatDoor
