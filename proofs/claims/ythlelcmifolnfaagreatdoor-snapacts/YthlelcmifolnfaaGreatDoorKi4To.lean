import Derived.Test.YthlelcmifolnfaaGreatDoorKd2To
import Derived.Test.YthlelcmifolnfaaGreatDoorEq4To
import Derived.Laws.AppendOwnNone
import Derived.Test.YthlelcmifolnfaaGreatDoorKa2To
import Derived.Test.YthlelcmifolnfaaGreatDoorWaCTo
import Derived.Test.YthlelcmifolnfaaGreatDoorRef6To
import Derived.Test.YthlelcmifolnfaaGreatDoorLxTo
namespace Go.Proofs.YthlelcmifolnfaaGreatDoor
open Go.RowKit Go.Shelf
attribute [local go_sem ↓] ldS_exec stS_exec ldS_execI stS_execI ldS_run ldS_box oc_int oc_bool oc_string oc_slice oc_pointer
def left12 : List Int → List (List Int) → Option (List Int)
  | b, [] => some b
  | b, c :: l => if c <+: b then left12 (b.drop c.length) l else none
theorem left12_app : ∀ (l m : List (List Int)) (b : List Int), left12 b (l ++ m) = (left12 b l).bind fun r => left12 r m
  | [], _, _ => rfl
  | c :: l, m, b => by
    rw [List.cons_append, left12, left12]
    split
    · exact left12_app l m _
    · rfl
theorem left12_flat : ∀ (l : List (List Int)) (b : List Int), (left12 b l = some [] ↔ l.flatten = b) ∧ (∀ r, left12 b l = some r → b = l.flatten ++ r)
  | [], b => by
    refine ⟨?_, fun r h => ?_⟩
    · rw [left12, List.flatten_nil, Option.some.injEq]
      exact ⟨fun h => h.symm, fun h => h.symm⟩
    · rw [left12, Option.some.injEq] at h
      rw [h]; rfl
  | c :: l, b => by
    rw [left12, List.flatten_cons]
    by_cases hc : c <+: b
    · rw [if_pos hc]
      obtain ⟨t, rfl⟩ := hc
      rw [List.drop_left]
      obtain ⟨h1, h2⟩ := left12_flat l t
      refine ⟨h1.trans ⟨fun h => by rw [h], fun h => List.append_cancel_left h⟩, fun r h => ?_⟩
      rw [List.append_assoc, ← h2 r h]
    · rw [if_neg hc]
      refine ⟨⟨(fun h => by cases h), fun h => absurd ⟨_, h⟩ hc⟩, (fun r h => by cases h)⟩
theorem load_bool12 (k : Nat) (v : Value) (W : World) (h : W.cell? ⟨k, 0, none⟩ = some v) : (loadVar 4 ⟨k, 0, none⟩).run Tryz.prog W = .ok v W := by
  simp [loadVar, go_sem, h]

set_option maxRecDepth 100000 in
set_option maxHeartbeats 1000000 in
theorem areChunks_any (x : SnapV) (s0 : Sl10) (xs : List Int) (w : World) (hT : Tab w) (hF : FitsS w x) (hf : FewF x.f.f) (hd : x.d.length ≤ 1048576) (hv : Has w (.slice s0.p s0.n s0.c) xs) (hB : IsB xs) :
    Calls Tryz.prog 54 #[.slice s0.p s0.n s0.c, .agg x.arr] w fun e w' => e = .returned (.bool (decide (whole12 x.s = xs))) ∧ Below w.heap.size w w' := by
  generalize hs : w.heap.size = s at *
  obtain ⟨w3, hw3⟩ : ∃ w3, ((w.alloc (.cells #[.slice s0.p s0.n s0.c] 25)).alloc (.cells x.arr 27)).alloc (.cells #[.bool false] 4) = w3 := ⟨_, rfl⟩
  have hb3 : Below s w w3 := by rw [← hw3]; exact (((Below.refl _ w).alloc (by omega) _).alloc (by simp; omega) _).alloc (by simp; omega) _
  have hz3 : w3.heap.size = s + 3 := by rw [← hw3]; simp; omega
  have b1 : Boxed w3 s 25 (.slice s0.p s0.n s0.c) := by rw [← hw3, ← hs]; exact ((Boxed.new w _ _).alloc _).alloc _
  have b2 : SnapAt w3 (s + 1) x := by
    have := heap_alloc_new (w.alloc (.cells #[.slice s0.p s0.n s0.c] 25)) (.cells x.arr 27)
    rw [World.size_alloc, hs] at this
    rw [← hw3]; exact box_below this ((Below.refl _ _).alloc (Nat.le_refl _) _)
  have b3 : Boxed w3 (s + 2) 4 (.bool false) := by
    have := Boxed.new ((w.alloc (.cells #[.slice s0.p s0.n s0.c] 25)).alloc (.cells x.arr 27)) 4 (.bool false)
    rw [World.size_alloc, World.size_alloc, hs] at this
    rw [← hw3]; exact this
  have hb3' : Below w.heap.size w w3 := by rw [hs]; exact hb3
  have kc := chunksS_any x w3
  rw [hz3] at kc
  have hld := ldS_box w3 _ _ _ _ b2 rfl
  have lb := box_lt b2
  refine (callsIn_wide (n := 9)).1 ?_
  refine callsIn_of_wp_marks Tryz.func54 rfl trivial ?_ rfl
  simp only [Tryz.ntmps54, List.size_toArray, List.length_cons, List.length_nil, Nat.reduceAdd, Nat.reduceSub, Array.replicate_succ, Array.replicate_zero, List.push_toArray, List.append_toArray, List.nil_append, List.cons_append]
  gi_wp2_with fail
  refine ⟨trivial, (callsIn_wide.2 kc).mono ?_⟩
  rintro _ w4 ⟨rfl, hw4⟩
  have hb4 : Below w3.heap.size w3 w4 := by rw [hw4]; exact (Below.refl _ _).alloc (Nat.le_refl _) _
  have hz4 : w4.heap.size = s + 4 := by rw [hw4]; simp; omega
  have x4 : SnapAt w4 (s + 3) x := by rw [hw4, ← hz3]; exact heap_alloc_new w3 _
  rw [hz3] at hb4
  have B4 : Below s w w4 := hb3.trans (hb4.mono (by omega))
  have B4' : Below w.heap.size w w4 := by rw [hs]; exact B4
  have hseq := chunks1_seq x (s + 3) w4 (hT.below B4' (Nat.le_refl _)) (hF.below B4') x4 hf hd
  have HSeq : Hid (SeqZ Tryz.prog 104 #[] #[.pointer (some ⟨s + 3, 0, none⟩)] (fun y : Sl10 × List Int => #[.slice y.1.p y.1.n y.1.c]) (snS x (s + 3)) (fun y => inSl y.1) (OkC (chunks12 x.s)) (fun pre => pre.map Prod.snd = chunks12 x.s) w4) := hseq
  have HSlt : Hid (∀ k, snS x (s + 3) k → k < s + 4 ∧ k ≠ s ∧ k ≠ s + 2) := fun k hk => by
    rcases hk with rfl | rfl | hk
    · have := hT.1; omega
    · omega
    · have := hF.inSn_lt hk; omega
  have HV : Hid (Has w (.slice s0.p s0.n s0.c) xs) := hv
  have HVlt : Hid (∀ k, inSl s0 k → k < s) := fun k hk => by have := hv.inSl_lt hk; omega
  have HB : Hid (IsB xs) := hB
  have b1' : Boxed w4 s 25 (.slice s0.p s0.n s0.c) := (hb4.block _ (by omega)).trans b1
  have b3' : Boxed w4 (s + 2) 4 (.bool false) := (hb4.block _ (by omega)).trans b3
  have HB4 : Hid (Below s w w4) := B4
  have HFl : Hid ((left12 xs (chunks12 x.s) = some [] ↔ whole12 x.s = xs)) := (left12_flat (chunks12 x.s) xs).1
  clear kc hld hw4 hb4 x4 B4 B4' hseq hT hF hv hB b1 b2 b3 hb3 hb3' lb
  gi_wp2
  refine range_seqZ (m := 7) (gf := 104) (fb := #[]) (lb := #[.pointer (some ⟨s + 3, 0, none⟩)]) rfl (enters_of Tryz.func104 (by kernel_rfl) rfl) HSeq.out (fun k hk => by have := (HSlt.out k hk).1; omega) (fun _ => rfl)
    (fun T pre X => (∃ (sl : Sl10) (r : List Int), Boxed X s 25 (.slice sl.p sl.n sl.c) ∧ Hid (left12 xs (pre.map Prod.snd) = some r) ∧ Hid (Has X (.slice sl.p sl.n sl.c) r) ∧ Hid (IsB r) ∧ Hid (∀ k, inSl sl k → inSl s0 k)) ∧ Boxed X (s + 2) 4 (.bool false) ∧ Hid (Below s w X) ∧ Hid (∀ k, T k → s + 4 ≤ k) ∧ s + 4 ≤ X.heap.size)
    (fun T cd pre X => cd = .ret ∧ Hid (left12 xs (chunks12 x.s) = none) ∧ Boxed X (s + 2) 4 (.bool false) ∧ Hid (Below s w X) ∧ Hid (∀ k, T k → s + 4 ≤ k) ∧ s + 4 ≤ X.heap.size) ?hI ?hIx ?h0 (fun _ _ _ _ _ _ h hs => h.soft hs) ?hab ?hdone ?hstop
  case hI =>
    rintro T1 T2 pre X Y ⟨⟨sl, r, i1, i2, i3, i4, i5⟩, j1, j2, j3, j4⟩ ht hT2
    have hno : ∀ k, k < s + 4 → ¬ T1 k := fun k hk h => by have := j3.out k h; omega
    have hz := ht.size
    have bel : Below s X Y := ht.below (fun k hk => by have := j3.out k hk; omega) (by omega)
    refine ⟨⟨sl, r, (ht.block _ i1.lt (hno _ (by omega))).trans i1, i2, i3.out.keepS12 (S := fun k => k < s) ⟨hz, fun k hk => ht.block k (by omega) (hno k (by omega))⟩ (fun k hk => HVlt.out k (i5.out k hk)), i4, i5⟩, (ht.block _ j1.lt (hno _ (by omega))).trans j1, j2.out.trans bel, fun k hk => ?_, by omega⟩
    rcases hT2 k hk with h | h
    · exact j3.out k h
    · omega
  case hIx =>
    rintro T1 T2 cd pre X Y ⟨i0, i1, j1, j2, j3, j4⟩ ht hT2
    have hno : ∀ k, k < s + 4 → ¬ T1 k := fun k hk h => by have := j3.out k h; omega
    have hz := ht.size
    have bel : Below s X Y := ht.below (fun k hk => by have := j3.out k hk; omega) (by omega)
    refine ⟨i0, i1, (ht.block _ j1.lt (hno _ (by omega))).trans j1, j2.out.trans bel, fun k hk => ?_, by omega⟩
    rcases hT2 k hk with h | h
    · exact j3.out k h
    · omega
  case h0 =>
    exact ⟨⟨s0, xs, b1', rfl, HV.out.below HB4.out (by omega), HB, fun _ h => h⟩, b3', HB4, (fun _ h => h.elim), by omega⟩
  case hdone =>
    rintro T1 pre X hX hTX hTs hF ⟨⟨sl, r, i1, i2, i3, i4, i5⟩, j1, j2, j3, j4⟩ hD
    rw [hz4] at hD hTs hX
    have c1 := i1.cell
    have l1 := i1.lt
    have c5 := j1.cell
    have f5 := j1.frozen
    have l5 := j1.lt
    have hsn := i3.out.sl12.1
    have HR : Hid (decide (whole12 x.s = xs) = decide (r = [])) := by
      have h2 := i2.out
      rw [hF] at h2
      rw [Hid]
      congr 1
      rw [← HFl.out, h2, Option.some.injEq]
    have hre : (((sl.n : Nat) : Int) == 0) = decide (r = []) := by
      rw [Bool.eq_iff_iff, beq_iff_eq, decide_eq_true_eq]
      constructor
      · intro h; exact List.eq_nil_of_length_eq_zero (by omega)
      · intro h; rw [h] at hsn; simp at hsn; omega
    generalize decide (r = []) = rb at *
    have b5 := j1.set (.bool rb)
    have hD2 : (X.setCell ⟨s + 2, 0, none⟩ (.bool rb)).heap[s + 4]? = some (.deferred (some [])) := (Below.heap_setCell _ _ _ _ (by show s + 4 ≠ s + 2; omega)).trans hD
    have hc9 : ((X.setCell ⟨s + 2, 0, none⟩ (.bool rb)).putObj (s + 4) (.deferred none)).cell? ⟨s + 2, 0, none⟩ = some (.bool rb) := Boxed.cell (t := 4) ((World.putObj_heap_other (by omega)).trans b5)
    have HE : Hid (Below s w ((X.setCell ⟨s + 2, 0, none⟩ (.bool rb)).putObj (s + 4) (.deferred none))) := (j2.out.setCell (p := ⟨s + 2, 0, none⟩) (by show s ≤ s + 2; omega) _).trans ((Turn.putObj (T := fun k => k = s + 4) _ rfl).below (fun k hk => by omega) (by have := (KeepsWalks.setCell X ⟨s + 2, 0, none⟩ (.bool rb)).size; omega))
    rw [hz4]
    clear i1 i2 i3 i4 i5 j1 j2 HSeq hF b5 hsn
    gi_wp2
    refine ⟨by simp, .inl ⟨_, _, rfl, run_takeDeferred hD2, ?_⟩⟩
    refine ⟨_, results_cell12 rfl _ _ _ ⟨s + 2, 0, none⟩ _ rfl (load_bool12 _ _ _ hc9), ?_, HE.out⟩
    rw [HR.out]
  case hstop =>
    rintro T1 cd pre X hX hTX hTs ⟨rfl, i1, j1, j2, j3, j4⟩ hD
    rw [hz4] at hD hTs hX
    have HR : Hid (decide (whole12 x.s = xs) = false) := decide_eq_false fun h => by
      have := HFl.out.2 h
      rw [i1.out] at this
      cases this
    have hc9 : (X.putObj (s + 4) (.deferred none)).cell? ⟨s + 2, 0, none⟩ = some (.bool false) := Boxed.cell (t := 4) ((World.putObj_heap_other (by omega)).trans j1)
    have HE : Hid (Below s w (X.putObj (s + 4) (.deferred none))) := j2.out.trans ((Turn.putObj (T := fun k => k = s + 4) _ rfl).below (fun k hk => by omega) (by omega))
    rw [hz4]
    clear i1 j1 j2 HSeq
    gi_wp2
    refine ⟨by simp, .inl ⟨_, _, rfl, run_takeDeferred hD, ?_⟩⟩
    refine ⟨_, results_cell12 rfl _ _ _ ⟨s + 2, 0, none⟩ _ rfl (load_bool12 _ _ _ hc9), ?_, HE.out⟩
    rw [HR.out]
  case hab =>
    refine ⟨?_, ?_, ?_⟩
    rotate_left
    · intro l' j X K hK
      have hsem := @Oper.semAt_some l'
      gi_wp2
      exact hK
    · rintro l' T' pre ⟨ys, yb⟩ X hX hTX hok ⟨⟨sl, r, i1, i2, i3, i4, i5⟩, j1, j2, j3, j4⟩
      have hsem := @Oper.semAt_some l'
      rw [hz4] at j3
      have okp := hok.pre
      have c1 := i1.cell
      have l1 := i1.lt
      have kp := cutPrefix_any sl ys r yb X i3.out hok.has i4.out hok.isB
      have HL : Hid (left12 xs ((pre ++ [(ys, yb)]).map Prod.snd) = if yb <+: r then some (r.drop yb.length) else none) := by
        rw [Hid, List.map_append, left12_app, i2.out]
        rfl
      have HN : Hid (left12 xs ((pre ++ [(ys, yb)]).map Prod.snd) = none → left12 xs (chunks12 x.s) = none) := fun h => by
        obtain ⟨t, ht⟩ := okp
        rw [← ht, left12_app, h]
        rfl
      have HJ3 : Hid (∀ k, recT (s + 4) T' k → s + 4 ≤ k) := fun k hk => j3.out k (hk.imp .inl id)
      have B1 : Hid (Boxed X s 25 (.slice sl.p sl.n sl.c)) := i1
      have B3 : Hid (Boxed X (s + 2) 4 (.bool false)) := j1
      have HI4 : Hid (IsB (r.drop yb.length)) := fun z hz => i4.out z (List.mem_of_mem_drop hz)
      clear okp hok i1 i2 i3 i4 j1 j3 HSeq
      rw [hz4]
      by_cases hp : yb <+: r
      · rw [decide_eq_true hp] at kp
        rw [if_pos hp] at HL
        gi_wp2_with (refine ⟨trivial, ?_⟩; gi_at_call 119; refine (CallsIn.inRound l' (callsIn_wide.2 kp)).mono ?_; rintro _ w' ⟨⟨s', rfl, hs1, hs2⟩, rfl⟩; have f1 := B1.out.frozen)
        have hz9 := (KeepsWalks.setCell w' ⟨s, 0, none⟩ (.slice s'.p s'.n s'.c)).size
        refine ⟨(KeepS.refl _ w').setCell (p := ⟨s, 0, none⟩) (fun h => (HSlt.out _ h).2.1 rfl) _, (KeepS.refl _ w').setCell (p := ⟨s, 0, none⟩) (fun h => by have h1 : s + 4 ≤ s := HJ3.out _ h; omega) _, ⟨s', r.drop yb.length, B1.out.set _, HL, ?_, HI4, fun k hk => i5.out k (hs2 k hk)⟩, (Below.heap_setCell _ _ _ _ (by show s + 2 ≠ s; omega)).trans B3.out, j2.out.setCell (p := ⟨s, 0, none⟩) (Nat.le_refl _) _, HJ3, by omega⟩
        exact (hs1 hp).keepS12 (S := fun k => k < s) ⟨hz9, fun k hk => Below.heap_setCell _ _ _ _ (by show k ≠ s; omega)⟩ fun k hk => HVlt.out k (i5.out k (hs2 k hk))
      · rw [decide_eq_false hp] at kp
        rw [if_neg hp] at HL
        gi_wp2_with (refine ⟨trivial, ?_⟩; gi_at_call 119; refine (CallsIn.inRound l' (callsIn_wide.2 kp)).mono ?_; rintro _ w' ⟨⟨s', rfl, hs1, hs2⟩, rfl⟩; have f1 := B3.out.frozen; have g1 := B3.out.cell; have g2 := B3.out.lt)
        have hz9 := (KeepsWalks.setCell w' ⟨s + 2, 0, none⟩ (.bool false)).size
        exact ⟨(KeepS.refl _ w').setCell (p := ⟨s + 2, 0, none⟩) (fun h => (HSlt.out _ h).2.2 rfl) _, (KeepS.refl _ w').setCell (p := ⟨s + 2, 0, none⟩) (fun h => by have h1 : s + 4 ≤ s + 2 := HJ3.out _ h; omega) _, rfl, HN.out HL.out, B3.out.set _, j2.out.setCell (p := ⟨s + 2, 0, none⟩) (by show s ≤ s + 2; omega) _, HJ3, Nat.le_trans j4 hz9⟩
end Go.Proofs.YthlelcmifolnfaaGreatDoor

namespace Go.Proofs.YthlelcmifolnfaaGreatDoor
open Go.RowKit Go.Shelf
attribute [local go_sem ↓] ldS_exec stS_exec ldS_execI stS_execI ldS_run ldS_box oc_int oc_bool oc_string oc_slice oc_pointer
attribute [local go_sem ↓] slF_exec slF_execI
theorem apIn_bytes {F : Fence} {n : Nat} {P : Program} {ops : Array Oper} {rest : List Oper} {o : Oper} {a : Act} {Q : Exit → Act → World → Prop} (w : World) (hgd : o.guard = none) (s x : Operand) (t : TypeId)
    (ho : o.op = .call { callee := .builtin .append, args := #[s, x], argTypes := #[t, t] })
    (B : Nat) (e : TypeId) (i : TypeInfo) (ht : P.underlying t = some (.slice e)) (hi : P.info? e = some i) (hz : i.zero = some (.int .u8 0)) (hsize : i.size = 1) (hby : i.bytes = 1)
    (v : Value) (xs ys : List Int) (hs : a.eval s = v) (hx : Has w (a.eval x) ys) (hown : Owns w B e v xs) (hlen : xs.length ≤ 1099511627776) (hlen2 : ys.length ≤ 1099511627776) (hB : B ≤ w.heap.size)
    (h : ∀ v' w', Owns w' B e v' (xs ++ ys) → w.grownBy w' v.ownBlock → (∀ k, v'.ownBlock = some k → v.ownBlock = some k ∨ w.heap.size ≤ k) → wpListIn F n P ops Q rest (a.put o.dst v') w') :
    wpListIn F n P ops Q (o :: rest) a w := by
  obtain ⟨p, c, hv, hc, hnone, hcell⟩ := hx
  have key : ∃ v' w', (Builtin.append_ #[t, t] o.type #[v, .slice p ys.length c]).run P w = .ok v' w' ∧ Owns w' B e v' (xs ++ ys) ∧ w.grownBy w' v.ownBlock ∧ ∀ k, v'.ownBlock = some k → v.ownBlock = some k ∨ w.heap.size ≤ k := by
    cases p with
    | none =>
      obtain rfl := hnone rfl
      have hy : ys = [] := List.eq_nil_of_length_eq_zero (by omega)
      subst hy
      have hrun := run_append_owned_none (P := P) (w := w) B t o.type e i 1 ht hi v xs.length (cellsB xs) hown
      exact ⟨v, w, hrun, by rw [List.append_nil]; exact hown, ⟨rfl, rfl, rfl, Nat.le_refl _, fun _ _ _ => rfl⟩, fun k hk => .inl hk⟩
    | some ad =>
      have hnews : ∀ j u, (cellsB ys)[j]? = some u → w.cell? (ad.add j) = some u := by
        intro j u hj
        have hjl : j < ys.length := by
          have := (List.getElem?_eq_some_iff.1 hj).1
          simpa [cellsB] using this
        obtain ⟨b, o', hp, _, hcl⟩ := hcell (by omega)
        obtain rfl := Option.some.inj hp
        rw [Addr.add_lit, hcl j hjl]
        simp [cellsB, List.getElem?_eq_getElem hjl] at hj
        subst hj
        simp [List.getElem?_eq_getElem hjl]
      obtain ⟨v', w', hrun, r1, r2, r3⟩ := run_append_own (P := P) w B t o.type e i (.int .u8 0) 1 1 ht hi hz hsize hby rfl (by decide) v xs.length (cellsB xs) hown ad ys.length c (cellsB ys) (by simp [cellsB]) hnews (cellsB_one ys) (by unfold maxLen; omega) (by omega) hB
      have hat := append_at (P := P) ht hi hz hsize hby rfl (by decide) hown (a := ad) (m := ys.length) (c := c) (news := cellsB ys) (by simp [cellsB]) hnews (cellsB_one ys) (by unfold maxLen; omega) (by omega) hrun
      refine ⟨v', w', hrun, ?_, r2, fun k hk => ?_⟩
      · unfold Owns
        simpa [cellsB] using r1
      · rcases hat with h1 | ⟨k', h1, h2⟩
        · exact .inl (by rw [← h1]; exact hk)
        · rw [h1] at hk
          cases hk
          exact .inr h2
  obtain ⟨v', w', hrun, r1, r2, r3⟩ := key
  refine wpListIn_plain hgd fun K hK' => ?_
  unfold Oper.wpIn
  refine ⟨?_, ?_⟩
  · simp [Oper.about, ho, resolve, Target.leads, Sem.run_pure]
  · rw [Oper.semAt_plain F _ _ (by rw [ho]; intro c hc'; cases hc')]
    simp [execOp, ho, resolve, invoke, builtin, hs, hv, hrun, Result.andThen]
    exact hK' _ _ (h v' w' r1 r2 r3)
theorem unframe_nat (xs : List Int) : (unframeS xs).2.1 = (((unframeS xs).2.1.toNat : Nat) : Int) ∧ (unframeS xs).2.1.toNat ≤ xs.length := by
  by_cases h : (unframeS xs).2.2 = 0
  · have hl := unframe_len h
    exact ⟨by omega, hl.2.1⟩
  · unfold unframeS at h ⊢
    repeat' split
    all_goals first | exact ⟨rfl, Nat.zero_le _⟩ | skip
    rename_i h1 h2 h3 h4 h5 h6
    rw [if_neg h1, if_neg h2, if_neg h3, if_neg h4, if_neg h5, if_neg h6] at h
    exact absurd rfl h
theorem lose_len12 (xs : List Int) (b : Bool) (n : Nat) : (loseS xs b n).1.length ≤ xs.length := by
  unfold loseS
  split
  · exact Nat.zero_le _
  · show (xs.drop n).length ≤ _
    rw [List.length_drop]; omega
theorem ints10_len12 : ∀ (n : Nat) (S : St), (ints10 n S).2.1.length ≤ S.1.length
  | 0, _ => Nat.le_refl _
  | n + 1, S => Nat.le_trans (lose_len12 _ _ _) (ints10_len12 n S)
theorem list10_len12 (m : Int) (S : St) : (list10 m S).2.1.length ≤ S.1.length := Nat.le_trans (ints10_len12 _ _) (lose_len12 _ _ _)
theorem snap10_d12 (m : Int) (S : St) : (snap10 m S).1.d.length ≤ S.1.length := by
  show (byt10 (conf10 m (int9 (int9 S).2).2).2).1.length ≤ _
  refine Nat.le_trans (getTextS_bd _).2 ?_
  show (list10 m (list10 m (int9 (int9 S).2).2).2).2.1.length ≤ _
  exact Nat.le_trans (list10_len12 _ _) (Nat.le_trans (list10_len12 _ _) (Nat.le_trans (lose_len12 _ _ _) (lose_len12 _ _ _)))
theorem readS_d12 (xs : List Int) : (readS12 xs).1.d.length ≤ xs.length := by
  have h := snap10_d12 9 (xs, false)
  unfold readS12 whole10
  split
  · exact h
  · exact Nat.zero_le _
theorem stS_arr {w : World} {b : Nat} (x : SnapV) (h : w.there b 0 5) : (stS (.pointer (some ⟨b, 0, none⟩)) (.agg x.arr)).run Tryz.prog w = .ok () (w.setCells b 0 x.arr.toList) := by
  refine run_storeAt_mid w b 0 27 x.arr h (by show _ = some 5; kernel_rfl) ?_
  have := all_oneCell_toArray (cs := x.arr.toList) (by
    intro v hv
    unfold SnapV.arr at hv
    simp at hv
    rcases hv with rfl | rfl | rfl | rfl | rfl <;> rfl)
  rwa [Array.toArray_toList] at this
theorem setS_box {w : World} {b : Nat} {a : Array Value} {t : TypeId} (x : SnapV) (h : w.heap[b]? = some (.cells a t (0, 0))) (ha : a.size = 5) : (w.setCells b 0 x.arr.toList).heap[b]? = some (.cells x.arr t (0, 0)) := by
  refine setCells_box h 0 x.arr.toList x.arr (by rw [ha]; exact Nat.le_refl _) ?_
  have : a.toList.drop (0 + x.arr.toList.length) = [] := List.drop_of_length_le (by rw [Array.length_toList, ha]; exact Nat.le_refl _)
  rw [this]
  simp
theorem flat_pre12 {l m : List (List Int)} (h : l <+: m) : l.flatten.length ≤ m.flatten.length := by
  obtain ⟨t, rfl⟩ := h
  rw [List.flatten_append, List.length_append]
  omega
theorem conts_isB12 (xs : List Int) (h : IsB xs) : IsB (conts12 xs).flatten := by
  suffices hs : ∀ n xs, xs.length ≤ n → IsB xs → IsB (conts12 xs).flatten from hs _ xs (Nat.le_refl _) h
  intro n
  induction n with
  | zero =>
    intro xs hl _
    rw [List.eq_nil_of_length_eq_zero (Nat.le_zero.1 hl)]
    exact IsB.nil
  | succ n ih =>
    intro xs hl hB
    by_cases hc : (unframeS xs).2.2 = 0
    · have hl2 := unframe_len hc
      rw [conts_cons hc, List.flatten_cons]
      exact IsB.append (unframe_isB12 hB) (ih _ (by rw [List.length_drop]; omega) fun z hz => hB z (List.mem_of_mem_drop hz))
    · rw [conts_none hc]
      exact IsB.nil
theorem row_soft12 {X Y : World} {B : Nat} {e : TypeId} {s n : Nat} {v : Value} {xs : List Value} (h : X.ownsRow B e s v n xs) (hs : Soft X Y) : Y.ownsRow B e s v n xs := by
  refine ⟨h.1, ?_⟩
  rcases h.2 with hn | ⟨g, cap, cur, hv, hb1, hg, rest⟩
  · exact .inl hn
  · exact .inr ⟨g, cap, cur, hv, hb1, hs.block g _ hg rfl, rest⟩
theorem OwnsS.soft12 {X Y : World} {B : Nat} {x : SnapV} (h : OwnsS X B x) (hs : Soft X Y) : OwnsS Y B x :=
  ⟨h.i, h.t, ⟨row_soft12 h.f.u hs, row_soft12 h.f.v hs, h.f.iu, h.f.iv, h.f.lu, h.f.lv⟩, row_soft12 h.w hs, h.b, h.l⟩
def zeroS : Array Value := #[.int .i64 0, .int .i64 0, .slice none 0 0, .slice none 0 0, .slice none 0 0]

set_option maxRecDepth 100000 in
set_option maxHeartbeats 1000000 in
theorem joinS_any (s0 : Sl10) (xs : List Int) (w : World) (hT : Tab w) (hv : Has w (.slice s0.p s0.n s0.c) xs) (hB : IsB xs) (hl : xs.length ≤ 1073741824) :
    Calls Tryz.prog 10 #[.slice s0.p s0.n s0.c] w fun e w' => ∃ Y : SnapV, e = .returned (.tuple #[.agg Y.arr, .int .i64 (join12 xs).2]) ∧ Y.s = (join12 xs).1 ∧ OwnsS w' w.heap.size Y ∧ Below w.heap.size w w' := by
  generalize hs : w.heap.size = s at *
  obtain ⟨w1, hw1⟩ : ∃ w1, w.alloc (.cells #[.int .i64 0, .int .i64 0, .slice none 0 0, .slice none 0 0, .slice none 0 0] 27) = w1 := ⟨_, rfl⟩
  have hb1 : Below s w w1 := by rw [← hw1]; exact (Below.refl _ w).alloc (by omega) _
  have hz1 : w1.heap.size = s + 1 := by rw [← hw1]; simp; omega
  have b1 : w1.heap[s]? = some (.cells zeroS 27 (0, 0)) := by rw [← hw1, ← hs]; exact heap_alloc_new w _
  have hb1' : Below w.heap.size w w1 := by rw [hs]; exact hb1
  have hv1 := hv.below hb1' (Nat.le_refl _)
  have ku := unframe_any _ xs w1 (hT.below hb1' (Nat.le_refl _)) hv1 (by omega) hB
  obtain ⟨hun, hul⟩ := unframe_nat xs
  have HDa : Hid (data12 xs = (conts12 (xs.drop (unframeS xs).2.1.toNat)).flatten) := rfl
  have HJ : Hid (join12 xs = if (readS12 (data12 xs)).2 = 0 ∧ whole12 (readS12 (data12 xs)).1 = xs then ((readS12 (data12 xs)).1, 0) else (noS10, 8)) := rfl
  have HDl : Hid ((data12 xs).length ≤ xs.length) := Nat.le_trans (conts_flat _) (by rw [List.length_drop]; omega)
  have hcut := fun (W : World) (h : Has W (.slice s0.p s0.n s0.c) xs) => h.cut12 (lo := (unframeS xs).2.1.toNat) (by rw [h.sl12.1]; exact hul)
  have hsl := slF_at12 hv (lo := (unframeS xs).2.1.toNat) (by rw [hv.sl12.1]; exact hul)
  rw [hun] at ku
  generalize (unframeS xs).2.1.toNat = hd at *
  generalize (unframeS xs).2.2 = ue at *
  generalize (unframeS xs).1 = ux at *
  refine (callsIn_wide (n := 9)).1 ?_
  refine callsIn_of_wp_marks Tryz.func10 rfl trivial ?_ rfl
  simp only [Tryz.ntmps10, List.size_toArray, List.length_cons, List.length_nil, Nat.reduceAdd, Nat.reduceSub, Array.replicate_succ, Array.replicate_zero, List.push_toArray, List.append_toArray, List.nil_append, List.cons_append]
  gi_wp2_with fail
  refine ⟨trivial, (callsIn_wide.2 ku).mono ?_⟩
  rintro _ w2 ⟨v2, rfl, -, hb2⟩
  have hb2' : Below s w w2 := hb1.trans (hb2.mono (by omega))
  have hz2 := hb2.size
  obtain ⟨w3, hw3⟩ : ∃ w3, w2.alloc (.cells #[.slice none 0 0] 25) = w3 := ⟨_, rfl⟩
  have hb3 : Below w2.heap.size w2 w3 := by rw [← hw3]; exact (Below.refl _ w2).alloc (Nat.le_refl _) _
  have hz3 : w3.heap.size = w2.heap.size + 1 := by rw [← hw3]; simp
  have a3 : Boxed w3 w2.heap.size 25 (.slice none 0 0) := by rw [← hw3]; exact Boxed.new w2 _ _
  have hb03 : Below s w w3 := hb2'.trans (hb3.mono (by omega))
  have hb03' : Below w.heap.size w w3 := by rw [hs]; exact hb03
  obtain ⟨s', hs1, hs2, hs3⟩ := hcut w3 (hv.below hb03' (Nat.le_refl _))
  rw [hs1] at hsl
  have kc := contentsS_any s'.p s'.n s'.c w3
  generalize hba : w2.heap.size = ba at *
  rw [hz3] at kc
  gi_wp2_with fail
  refine ⟨trivial, (callsIn_wide.2 kc).mono ?_⟩
  rintro _ w4 ⟨rfl, hw4⟩
  have hb4 : Below w3.heap.size w3 w4 := by rw [hw4]; exact (Below.refl _ w3).alloc (Nat.le_refl _) _
  have hz4 : w4.heap.size = ba + 2 := by rw [hw4]; simp; omega
  have c4 : Boxed w4 (ba + 1) 25 (.slice s'.p s'.n s'.c) := by rw [hw4, ← hz3]; exact Boxed.new w3 _ _
  rw [hz3] at hb4
  have a4 : Boxed w4 ba 25 (.slice none 0 0) := (hb4.block _ (by omega)).trans a3
  have hb04 : Below s w w4 := hb03.trans (hb4.mono (by omega))
  have hb04' : Below w.heap.size w w4 := by rw [hs]; exact hb04
  have r4 : w4.heap[s]? = some (.cells zeroS 27 (0, 0)) := (hb4.block _ (by omega)).trans ((hb3.block _ (by omega)).trans ((hb2.block _ (by omega)).trans b1))
  have hBd : IsB (xs.drop hd) := fun z hz => hB z (List.mem_of_mem_drop hz)
  have hseq := contents1_seq s' (ba + 1) (xs.drop hd) w4 (hT.below hb04' (Nat.le_refl _)) (hs2.below (by rw [hz3]; exact hb4) (Nat.le_refl _)) hBd (by rw [List.length_drop]; omega) c4
  have HSeq : Hid (SeqZ Tryz.prog 115 #[] #[.pointer (some ⟨ba + 1, 0, none⟩)] (fun y : Sl10 × List Int => #[.slice y.1.p y.1.n y.1.c]) (coS s' (ba + 1)) (fun _ _ => False) (fun _ _ => OkT (conts12 (xs.drop hd))) (fun pre => pre.map Prod.snd = conts12 (xs.drop hd)) w4) := hseq
  have HSl0 : Hid (∀ k, inSl s0 k → k < s) := fun k hk => by have := hv.inSl_lt hk; omega
  have HSlt : Hid (∀ k, coS s' (ba + 1) k → k < ba + 2 ∧ k ≠ ba ∧ k ≠ s) := fun k hk => by
    rcases hk with rfl | rfl | hk
    · have := hT.1; omega
    · omega
    · have := HSl0.out k (hs3 k hk); omega
  have HT : Hid (Tab w) := hT
  have HV : Hid (Has w (.slice s0.p s0.n s0.c) xs) := hv
  have HB : Hid (IsB xs) := hB
  have HB4 : Hid (Below s w w4) := hb04
  obtain ⟨i0, hi8, hi0, hi1, hi2⟩ := info_parts info8c
  clear ku kc hw1 hb1 hb1' b1 hv1 hb2 hb2' hw3 hb3 a3 hb03 hb03' hs1 hs2 hs3 hw4 hb4 c4 hb04 hb04' hBd hseq hT hv hB hcut hsl
  gi_wp2
  refine range_seqZ (m := 7) (gf := 115) (fb := #[]) (lb := #[.pointer (some ⟨ba + 1, 0, none⟩)]) rfl (enters_of Tryz.func115 (by kernel_rfl) rfl) HSeq.out (fun k hk => by have := (HSlt.out k hk).1; omega) (fun _ => rfl)
    (fun T pre X => (∃ sl : Sl10, Boxed X ba 25 (.slice sl.p sl.n sl.c) ∧ Hid (Owns X s 5 (.slice sl.p sl.n sl.c) (pre.map Prod.snd).flatten) ∧ Hid (∀ k, (Value.slice sl.p sl.n sl.c).ownBlock = some k → ¬ T k ∧ ba + 2 ≤ k)) ∧ X.heap[s]? = some (.cells zeroS 27 (0, 0)) ∧ Hid (Below s w X) ∧ Hid (∀ k, T k → ba + 2 ≤ k) ∧ ba + 2 ≤ X.heap.size ∧ Hid (pre.map Prod.snd <+: conts12 (xs.drop hd)))
    (fun _ _ _ _ => False) ?hI ?hIx ?h0 (fun _ _ _ _ _ _ h hs => h.soft hs) ?hab ?hdone ?hstop
  case hIx => exact fun _ _ _ _ _ _ h _ _ => h
  case hstop => exact fun _ _ _ _ _ _ _ h _ => h.elim
  case hI =>
    rintro T1 T2 pre X Y ⟨⟨sl, i1, i2, i3⟩, j1, j2, j3, j4, j5⟩ ht hT2
    have hno : ∀ k, k < ba + 2 → ¬ T1 k := fun k hk h => by have := j3.out k h; omega
    have hz := ht.size
    refine ⟨⟨sl, (ht.block _ i1.lt (hno _ (by omega))).trans i1, ?_, fun k hk => ⟨fun h => ?_, (i3.out k hk).2⟩⟩, (ht.block _ (box_lt j1) (hno _ (by omega))).trans j1, j2.out.trans (ht.below (fun k hk => by have := j3.out k hk; omega) (by omega)), fun k hk => ?_, by omega, j5⟩
    · refine ⟨i2.out.1, ?_⟩
      rcases i2.out.2 with hn | ⟨g, cap, cur, hv, hb1, hg, rest⟩
      · exact .inl hn
      · refine .inr ⟨g, cap, cur, hv, hb1, ?_, rest⟩
        exact (ht.block g (box_lt hg) (i3.out g (by rw [hv]; rfl)).1).trans hg
    · rcases hT2 k h with h | h
      · exact (i3.out k hk).1 h
      · have := (World.ownsRow.lt i2.out k hk).2; omega
    · rcases hT2 k hk with h | h
      · exact j3.out k h
      · omega
  case h0 =>
    exact ⟨⟨nilS10, a4, (show Owns w4 s 5 (.slice none 0 0) [] from World.ownsRow_nil w4 s _ 1), (fun k hk => by cases hk)⟩, r4, HB4, (fun _ h => h.elim), by omega, List.nil_prefix⟩
  case hab =>
    refine ⟨?_, ?_, ?_⟩
    rotate_left
    · intro l' j X K hK
      have hsem := @Oper.semAt_some l'
      gi_wp2
      exact hK
    · rintro l' T' pre ⟨ys, yb⟩ X hX hTX hok ⟨⟨sl, i1, i2, i3⟩, j1, j2, j3, j4, j5⟩
      have hsem := @Oper.semAt_some l'
      rw [show (fun k => T' k ∨ False) = T' by funext k; simp] at i3 j3
      rw [hz4] at i3 j3 hTX hX
      have c1 := i1.cell
      have l1 := i1.lt
      have hfl := flat_pre12 j5.out
      have hcf := conts_flat (xs.drop hd)
      rw [List.length_drop] at hcf
      have HBa : Hid (∀ w5, X.grownBy w5 (Value.slice sl.p sl.n sl.c).ownBlock → Boxed w5 ba 25 (.slice sl.p sl.n sl.c)) := fun w5 hg => (hg.block ba l1 (fun e => by have := (i3.out ba e.symm).2; omega)).trans i1
      have HP : Hid ((pre ++ [(ys, yb)]).map Prod.snd <+: conts12 (xs.drop hd)) := hok.pre
      have hylen := hok.len
      have HT' : Hid (∀ k, recT (ba + 2) T' k → ba + 2 ≤ k) := j3
      have HTX : Hid (∀ k, recT (ba + 2) T' k → k < X.heap.size) := fun k hk => by
        rcases hk with hk | hk
        · exact (hTX k hk).2
        · omega
      rw [hz4]
      have A1 : Owns X s 5 (.slice sl.p sl.n sl.c) (pre.map Prod.snd).flatten := i2.out
      have A2 : Has X (.slice ys.p ys.n ys.c) yb := hok.has
      have A3 : (pre.map Prod.snd).flatten.length ≤ 1099511627776 := by omega
      have A4 : yb.length ≤ 1099511627776 := by
        have : yb.length ≤ 1048576 := hylen
        omega
      have A5 : s ≤ X.heap.size := by omega
      clear i2 hok hylen hfl hcf
      gi_wp2_with (gi_at_builtin; refine apIn_bytes _ rfl _ _ 25 rfl s 5 i0 Tryz.underlying25 hi8 hi0 hi1 hi2 (.slice sl.p sl.n sl.c) (pre.map Prod.snd).flatten yb rfl A2 A1 A3 A4 A5 ?_; intro v5 w5 ho5 hg5 hat5; obtain ⟨s5, rfl, -⟩ := ho5.slice12; have qa := HBa.out w5 hg5; have ca := qa.cell; have fa := qa.frozen; have la := qa.lt)
      have hz5 := hg5.size
      have hz6 := (KeepsWalks.setCell w5 ⟨ba, 0, none⟩ (.slice s5.p s5.n s5.c)).size
      have hkeep : ∀ k, k < X.heap.size → (Value.slice sl.p sl.n sl.c).ownBlock ≠ some k → k ≠ ba → (w5.setCell ⟨ba, 0, none⟩ (.slice s5.p s5.n s5.c)).heap[k]? = X.heap[k]? := fun k hk h1 h2 => (Below.heap_setCell _ _ _ _ (by show k ≠ ba; exact h2)).trans (hg5.block k hk (fun e => h1 e.symm))
      have hown : ∀ k, (Value.slice sl.p sl.n sl.c).ownBlock = some k → ¬ recT (ba + 2) T' k ∧ ba + 2 ≤ k := i3.out
      refine ⟨⟨by omega, fun k hk => hkeep k (by have := (HSlt.out k hk).1; omega) (fun e => by have := (HSlt.out k hk).1; have := (hown k e).2; omega) (HSlt.out k hk).2.1⟩, ⟨by omega, fun k hk => hkeep k (HTX.out k hk) (fun e => (hown k e).1 hk) (by have := HT'.out k hk; omega)⟩, ⟨s5, qa.set _, ?_, fun k hk => ?_⟩, ?_, ?_, HT', by omega, HP⟩
      · rw [List.map_append, List.flatten_append, List.map_singleton, List.flatten_singleton]
        refine ⟨ho5.1, ?_⟩
        rcases ho5.2 with hn | ⟨g, cap, cur, hv, hb1, hg, rest⟩
        · exact .inl hn
        · refine .inr ⟨g, cap, cur, hv, hb1, ?_, rest⟩
          refine (Below.heap_setCell _ _ _ _ (by
            show g ≠ ba
            intro e
            rcases hat5 g (by rw [hv]; rfl) with h | h
            · have := (hown g h).2; omega
            · omega)).trans hg
      · rcases hat5 k hk with h | h
        · exact hown k h
        · exact ⟨fun h2 => by have := HTX.out k h2; omega, by omega⟩
      · exact (hkeep s (by omega) (fun e => by have := (hown s e).2; omega) (by omega)).trans j1
      · refine (j2.out.trans ?_).setCell (p := ⟨ba, 0, none⟩) (by show s ≤ ba; omega) _
        exact (Below.refl _ X).grown hg5 (by omega) fun k hk => by have := (hown k hk).2; omega
  case hdone =>
    rintro T1 pre X hX hTX hTs hF ⟨⟨sl, i1, i2, i3⟩, j1, j2, j3, j4, j5⟩ hD
    rw [hz4] at hD hTs hX
    rw [hF, ← HDa.out] at i2
    have c1 := i1.cell
    have l1 := i1.lt
    have hBD : IsB (data12 xs) := by
      rw [HDa.out]
      exact conts_isB12 _ fun z hz => HB.out z (List.mem_of_mem_drop hz)
    have kr := readS_own _ (data12 xs) X i2.out.has hBD (by have := HDl.out; omega)
    have HRd : Hid (whole10 goodS10 noS10 (snap10 9 (data12 xs, false)) = readS12 (data12 xs)) := rfl
    rw [HRd.out] at kr
    have hdl := readS_d12 (data12 xs)
    have hgd := @readS_good (data12 xs)
    generalize readS12 (data12 xs) = RR at *
    obtain ⟨rs, re⟩ := RR
    dsimp only at kr hdl hgd HJ
    have HR1 : Hid (X.heap[s]? = some (.cells zeroS 27 (0, 0))) := j1
    have HBX : Hid (Below s w X) := j2
    have HDf : Hid (X.heap[ba + 2]? = some (.deferred (some []))) := hD
    have hlDl := HDl.out
    rw [hz4]
    clear i1 i2 i3 j1 j2 j3 j5 HSeq hF hD HRd hBD
    gi_wp2_with fail
    refine ⟨trivial, (callsIn_wide.2 kr).mono ?_⟩
    rintro _ w5 ⟨Y, rfl, hY, hFY, hb5⟩
    have hz5 := hb5.size
    have hbx := heap_alloc_new w5 (.cells #[.int .i64 0, .int .i64 0, .slice none 0 0, .slice none 0 0, .slice none 0 0] 27)
    have hth := there_box hbx 0 5 (Nat.le_refl _)
    have hst := stS_arr Y hth
    have hb6 : Below w5.heap.size w5 ((w5.alloc (.cells #[.int .i64 0, .int .i64 0, .slice none 0 0, .slice none 0 0, .slice none 0 0] 27)).setCells w5.heap.size 0 Y.arr.toList) := setCells_below (Nat.le_refl _) _ _ ((Below.refl _ _).alloc (Nat.le_refl _) _)
    have hy6 := setS_box Y hbx rfl
    have HOY : Hid (OwnsS w5 X.heap.size Y) := hFY
    have HB6 : Hid (Below s w ((w5.alloc (.cells #[.int .i64 0, .int .i64 0, .slice none 0 0, .slice none 0 0, .slice none 0 0] 27)).setCells w5.heap.size 0 Y.arr.toList)) := HBX.out.trans ((hb5.trans (hb6.mono hz5)).mono (by omega))
    have r6 : ((w5.alloc (.cells #[.int .i64 0, .int .i64 0, .slice none 0 0, .slice none 0 0, .slice none 0 0] 27)).setCells w5.heap.size 0 Y.arr.toList).heap[s]? = some (.cells zeroS 27 (0, 0)) := box_below (box_below HR1.out hb5) hb6
    have D6 : ((w5.alloc (.cells #[.int .i64 0, .int .i64 0, .slice none 0 0, .slice none 0 0, .slice none 0 0] 27)).setCells w5.heap.size 0 Y.arr.toList).heap[ba + 2]? = some (.deferred (some [])) := box_below (box_below HDf.out hb5) hb6
    have O6 : OwnsS ((w5.alloc (.cells #[.int .i64 0, .int .i64 0, .slice none 0 0, .slice none 0 0, .slice none 0 0] 27)).setCells w5.heap.size 0 Y.arr.toList) X.heap.size Y := HOY.out.below hb6
    have HY : Hid (Y.s = rs) := hY
    have hlx := box_lt hy6
    -- how a call ends that tells nothing
    have none_end : ∀ (V : World), V.heap[s]? = some (.cells zeroS 27 (0, 0)) → V.heap[ba + 2]? = some (.deferred (some [])) → Below s w V → (V.setCells s 0 noSV.arr.toList).heap[ba + 2]? = some (.deferred (some [])) ∧ ((V.setCells s 0 noSV.arr.toList).putObj (ba + 2) (.deferred none)).heap[s]? = some (.cells noSV.arr 27 (0, 0)) ∧ OwnsS ((V.setCells s 0 noSV.arr.toList).putObj (ba + 2) (.deferred none)) s noSV ∧ Below s w ((V.setCells s 0 noSV.arr.toList).putObj (ba + 2) (.deferred none)) := fun V h1 h2 h3 => by
      have hsz := (setCells_grown s noSV.arr.toList 0 V).size
      refine ⟨((setCells_grown s noSV.arr.toList 0 V).block _ (box_lt h2) (by intro e; cases e; omega)).trans h2, (World.putObj_heap_other (by omega)).trans (setS_box noSV h1 rfl), OwnsS.nil _ _, (setCells_below (Nat.le_refl _) _ _ h3).trans ((Turn.putObj (T := fun k => k = ba + 2) _ rfl).below (fun k hk => by omega) (by have := box_lt h1; omega))⟩
    have HNE : Hid _ := none_end
    clear kr hFY hb6 hth none_end hbx hY
    by_cases hre : re = 0
    · have hg := hgd hre
      have hfw := good_few hg
      have HFw : Hid (FewF Y.f.f ∧ Y.d.length ≤ 1048576) := by
        have e1 : Y.f.f = rs.f := congrArg Snap10.f HY.out
        have e2 : Y.d = rs.d := congrArg Snap10.d HY.out
        rw [Hid, e1, e2]
        exact ⟨⟨by omega, by omega⟩, hfw.2.2⟩
      have hld := ldS_box _ _ _ _ _ hy6 rfl
      have ka := areChunks_any Y s0 xs ((w5.alloc (.cells #[.int .i64 0, .int .i64 0, .slice none 0 0, .slice none 0 0, .slice none 0 0] 27)).setCells w5.heap.size 0 Y.arr.toList) (HT.out.below HB6.out (by omega)) O6.fits HFw.out.1 HFw.out.2 (HV.out.below HB6.out (by omega)) HB.out
      have HJ2 : Hid (join12 xs = if whole12 Y.s = xs then (Y.s, 0) else (noS10, 8)) := by
        rw [Hid, HJ.out, HY.out]
        by_cases hw : whole12 rs = xs
        · rw [if_pos ⟨hre, hw⟩, if_pos hw]
        · rw [if_neg (fun h => hw h.2), if_neg hw]
      generalize hW6 : (w5.alloc (.cells #[.int .i64 0, .int .i64 0, .slice none 0 0, .slice none 0 0, .slice none 0 0] 27)).setCells w5.heap.size 0 Y.arr.toList = w6 at *
      subst hre
      clear HJ hg hfw hgd hdl HOY hb5
      gi_wp2_with fail
      refine ⟨trivial, (callsIn_wide.2 ka).mono ?_⟩
      rintro _ w7 ⟨rfl, hb7⟩
      have hy7 : SnapAt w7 w5.heap.size Y := box_below hy6 hb7
      have r7 := box_below r6 hb7
      have D7 := box_below D6 hb7
      have O7 := O6.below hb7
      have HB7 : Hid (Below s w w7) := HB6.out.trans (hb7.mono (by have := box_lt r6; omega))
      have hld7 := ldS_box w7 _ _ _ _ hy7 rfl
      have lx7 := box_lt hy7
      have lr7 := box_lt r7
      have hth7 := there_box r7 0 5 (Nat.le_refl _)
      clear ka hld hst hb7 hy6 r6 D6 O6
      by_cases hw : whole12 Y.s = xs
      · rw [decide_eq_true hw]
        rw [if_pos hw] at HJ2
        have hst7 := stS_arr Y hth7
        have hsz := (setCells_grown s Y.arr.toList 0 w7).size
        have D8 : (w7.setCells s 0 Y.arr.toList).heap[ba + 2]? = some (.deferred (some [])) := ((setCells_grown s Y.arr.toList 0 w7).block _ (box_lt D7) (by intro e; cases e; omega)).trans D7
        have R8 : Hid (((w7.setCells s 0 Y.arr.toList).putObj (ba + 2) (.deferred none)).heap[s]? = some (.cells Y.arr 27 (0, 0))) := (World.putObj_heap_other (by omega)).trans (setS_box Y r7 rfl)
        have O8 : OwnsS (w7.setCells s 0 Y.arr.toList) X.heap.size Y := O7.kept (setCells_grown s Y.arr.toList 0 w7) (by omega)
        have O9 : Hid (OwnsS ((w7.setCells s 0 Y.arr.toList).putObj (ba + 2) (.deferred none)) X.heap.size Y) := O8.soft12 (Soft.putObj _ D8 rfl)
        have HB9 : Hid (Below s w ((w7.setCells s 0 Y.arr.toList).putObj (ba + 2) (.deferred none))) := (setCells_below (Nat.le_refl _) _ _ HB7.out).trans ((Turn.putObj (T := fun k => k = ba + 2) _ rfl).below (fun k hk => by omega) (by omega))
        clear hth7 O7 O8 r7 D7 hw
        gi_wp2
        refine ⟨by simp, .inl ⟨_, _, rfl, run_takeDeferred D8, ?_⟩⟩
        refine ⟨_, ret_cell9 rfl _ _ s _ _ _ _ rfl R8.out Tryz.underlying27 rfl (by kernel_rfl), Y, ?_, ?_, O9.out.mono (by omega), HB9.out⟩
        · rw [HJ2.out]; rfl
        · rw [HJ2.out]
      · rw [decide_eq_false hw]
        rw [if_neg hw] at HJ2
        have hthR := hth7
        have hrR := r7
        have hDR := D7
        have hBR := HB7.out
        have hstR : (stS (.pointer (some ⟨s, 0, none⟩)) (.agg #[.int .i64 0, .int .i64 0, .slice none 0 0, .slice none 0 0, .slice none 0 0])).run Tryz.prog w7 = .ok () (w7.setCells s 0 noSV.arr.toList) := stS_arr noSV hthR
        obtain ⟨e1, e2, e3, e4⟩ := HNE.out w7 hrR hDR hBR
        have E2 : Hid _ := e2
        have E34 : Hid _ := And.intro e3 e4
        clear hth7 O7 r7 D7 hw hrR hDR hBR e2 e3 e4 hld7
        gi_wp2
        refine ⟨by simp, .inl ⟨_, _, rfl, run_takeDeferred e1, ?_⟩⟩
        refine ⟨_, ret_cell9 rfl _ _ s _ _ _ _ rfl E2.out Tryz.underlying27 rfl (by kernel_rfl), noSV, ?_, ?_, E34.out.1, E34.out.2⟩
        · rw [HJ2.out]; rfl
        · rw [HJ2.out]; rfl
    · have hre' : (re != 0) = true := by simpa using hre
      have HJ2 : Hid (join12 xs = (noS10, 8)) := by rw [Hid, HJ.out, if_neg (fun h => hre h.1)]
      have hthR := there_box r6 0 5 (Nat.le_refl _)
      have hrR := r6
      have hDR := D6
      have hBR := HB6.out
      have lr6 := box_lt r6
      generalize hW6 : (w5.alloc (.cells #[.int .i64 0, .int .i64 0, .slice none 0 0, .slice none 0 0, .slice none 0 0] 27)).setCells w5.heap.size 0 Y.arr.toList = w6 at *
      have hstR : (stS (.pointer (some ⟨s, 0, none⟩)) (.agg #[.int .i64 0, .int .i64 0, .slice none 0 0, .slice none 0 0, .slice none 0 0])).run Tryz.prog w6 = .ok () (w6.setCells s 0 noSV.arr.toList) := stS_arr noSV hthR
      obtain ⟨e1, e2, e3, e4⟩ := HNE.out w6 hrR hDR hBR
      have E2 : Hid _ := e2
      have E34 : Hid _ := And.intro e3 e4
      clear HJ hgd hdl HOY hb5 O6 r6 D6 hrR hDR hBR e2 e3 e4 hy6
      gi_wp2
      refine ⟨trivial, ?_⟩
      gi_wp2
      refine ⟨by simp, .inl ⟨_, _, rfl, run_takeDeferred e1, ?_⟩⟩
      refine ⟨_, ret_cell9 rfl _ _ s _ _ _ _ rfl E2.out Tryz.underlying27 rfl (by kernel_rfl), noSV, ?_, ?_, E34.out.1, E34.out.2⟩
      · rw [HJ2.out]; rfl
      · rw [HJ2.out]; rfl
end Go.Proofs.YthlelcmifolnfaaGreatDoor

namespace Go.Proofs.YthlelcmifolnfaaGreatDoor
open Go.RowKit Go.Shelf Go.Maps
attribute [local go_sem ↓] ldS_exec stS_exec ldS_execI stS_execI ldS_run ldS_box oc_int oc_bool oc_string oc_slice oc_pointer
theorem elemR12 : Elem8 Tryz.prog 32 25 1 24 := elem8 Tryz.underlying32 (z := .slice none 0 0) (by kernel_rfl) rfl (by decide)
def slV (y : Sl10 × List Int) : Value := .slice y.1.p y.1.n y.1.c
structure RowC (w : World) (B : Nat) (s : Sl10) (ys : List (Sl10 × List Int)) : Prop where
  row : w.ownsRow B 25 1 (.slice s.p s.n s.c) ys.length (ys.map slV)
  has : ∀ y ∈ ys, Has w (slV y) y.2
theorem RowC.below {w w' : World} {B : Nat} {s : Sl10} {ys : List (Sl10 × List Int)} (h : RowC w B s ys) (hb : Below w.heap.size w w') : RowC w' B s ys := ⟨row_below12 h.row hb (Nat.le_refl _), fun y hy => (h.has y hy).below hb (Nat.le_refl _)⟩

def ApartC (sl : Sl10) (pre : List (Sl10 × List Int)) : Prop := ∀ y ∈ pre, ∀ k, inSl y.1 k → (Value.slice sl.p sl.n sl.c).ownBlock ≠ some k
def chs12 (s : Snap10) : List (List Int) := if goodS10 s = true then chunks12 s else []
def ChE (x : SnapV) (w : World) (e : Ending) (w' : World) : Prop := ∃ (s : Sl10) (ys : List (Sl10 × List Int)), e = .returned (.slice s.p s.n s.c) ∧ ys.map Prod.snd = chs12 x.s ∧ RowC w' w.heap.size s ys ∧ Below w.heap.size w w'
theorem RowC.nil (w : World) (B : Nat) : RowC w B nilS10 [] := ⟨World.ownsRow_nil w B _ 1, fun _ h => by cases h⟩
theorem RowC.mono {w : World} {B B' : Nat} {s : Sl10} {ys : List (Sl10 × List Int)} (h : RowC w B s ys) (hB : B' ≤ B) : RowC w B' s ys := ⟨row_base h.row hB, h.has⟩
end Go.Proofs.YthlelcmifolnfaaGreatDoor

namespace Go.Proofs.YthlelcmifolnfaaGreatDoor
open Go.RowKit
theorem conts_nil12 : conts12 [] = [] := rfl
structure Read12 (b : List Int) (l : List (List Int)) (k : Nat) : Prop where
  le : k ≤ b.length
  is : conts12 b = l ++ conts12 (b.drop k)
  sum : k = (l.map fun c => c.length + 8).sum
theorem Read12.zero (b : List Int) : Read12 b [] 0 := ⟨Nat.zero_le _, by rw [List.nil_append, List.drop_zero], rfl⟩
theorem Read12.step {b : List Int} {l : List (List Int)} {k : Nat} (h : Read12 b l k) (hu : (unframeS (b.drop k)).2.2 = 0) : Read12 b (l ++ [(unframeS (b.drop k)).1]) (k + (unframeS (b.drop k)).2.1.toNat) := by
  have hl := unframe_len hu
  have hk := h.le
  rw [List.length_drop] at hl
  refine ⟨by omega, ?_, ?_⟩
  · rw [h.is, conts_cons hu, List.append_assoc, List.singleton_append, List.drop_drop]
  · rw [List.map_append, List.sum_append, ← h.sum]
    simp only [List.map_cons, List.map_nil, List.sum_cons, List.sum_nil]
    omega
theorem frames_len12 : ∀ l : List (List Int), (l.map frameB).flatten.length = (l.map fun c => c.length + 8).sum
  | [] => rfl
  | c :: l => by rw [List.map_cons, List.flatten_cons, List.length_append, frameB_length, frames_len12 l, List.map_cons, List.sum_cons]
theorem whole_cs12 (s : Snap10) : whole12 s = ((headB12 s (snapB s) :: pieces12 (snapB s)).map frameB).flatten := by
  unfold whole12 chunks12
  rw [List.map_cons]
theorem Read12.bad {b : List Int} {l : List (List Int)} {k : Nat} (h : Read12 b l k) (hk : k < b.length) (hu : ¬ (unframeS (b.drop k)).2.2 = 0) : join12 b = (noS10, 8) := by
  rcases join_two b with hj | hj
  · exfalso
    obtain ⟨-, hw⟩ := join_ok hj
    generalize (join12 b).1 = s at hw
    have hcs : conts12 b = headB12 s (snapB s) :: pieces12 (snapB s) := by
      rw [← hw, whole_cs12]
      refine conts_frames _ fun x hx => ?_
      rcases List.mem_cons.1 hx with rfl | hx
      · have := head_len s (snapB s); omega
      · have := pieces_len hx; omega
    have hl : conts12 b = l := by rw [h.is, conts_none hu, List.append_nil]
    have e1 : b.length = k := by
      rw [h.sum, ← hl, hcs, ← frames_len12, ← whole_cs12, hw]
    omega
  · exact hj
theorem Read12.done {b : List Int} {l : List (List Int)} (h : Read12 b l b.length) : (l.drop 1).flatten = data12 b := by
  have hl : conts12 b = l := by rw [h.is, List.drop_length, conts_nil12, List.append_nil]
  unfold data12
  by_cases hu : (unframeS b).2.2 = 0
  · rw [conts_cons hu] at hl
    rw [← hl]
    rfl
  · rw [conts_none hu] at hl
    rw [← hl]
    have hb : b = [] := by
      have := h.sum
      rw [← hl] at this
      exact List.eq_nil_of_length_eq_zero this
    rw [hb]
    rfl
end Go.Proofs.YthlelcmifolnfaaGreatDoor

namespace Go.Proofs.YthlelcmifolnfaaGreatDoor
open Go.RowKit Go.Shelf Go.Maps
attribute [local go_sem ↓] ldS_exec stS_exec ldS_execI stS_execI ldS_run ldS_box oc_int oc_bool oc_string oc_slice oc_pointer
set_option maxRecDepth 100000 in
set_option maxHeartbeats 2000000 in
theorem rname12_any (n : Int) (w : World) : Calls Tryz.prog 16 #[.int .i64 n] w fun e w' => e = .returned (.string (nameB12 n)) ∧ Below w.heap.size w w' := by
  have hem : (⟨#[]⟩ : ByteArray) = strOfNums [] := by decide +kernel
  have HN : Hid (nameB12 n = strOfNums (name12 n)) := rfl
  generalize nameB12 n = nm at *
  by_cases h1 : n < 1
  · have HF : Hid (name12 n = []) := if_neg (by omega)
    go_enter Tryz.func16, Tryz.ntmps16
    go_wp2
    go_ret
    exact ⟨by rw [HN.out, HF.out, ← hem]; rfl, Below.refl _ _⟩
  by_cases h2 : 999999999 < n
  · have HF : Hid (name12 n = []) := if_neg (by omega)
    go_enter Tryz.func16, Tryz.ntmps16
    go_wp2
    go_ret
    exact ⟨by rw [HN.out, HF.out, ← hem]; rfl, Below.refl _ _⟩
  have HF : Hid (name12 n = pre12 ++ digs11 20 n.toNat) := if_pos (by omega)
  obtain ⟨k, rfl⟩ : ∃ k : Nat, n = (k : Int) := ⟨n.toNat, by omega⟩
  have hk : k < 10 ^ 18 := Nat.lt_of_lt_of_le (show k < 10 ^ 9 by simp; omega) (Nat.pow_le_pow_right (by omega) (by omega))
  have kd := digits11_any k hk w
  have hl := digs_len 20 k (Nat.lt_of_lt_of_le hk (Nat.pow_le_pow_right (by omega) (by omega)))
  rw [Int.toNat_natCast] at HF
  generalize digs11 20 k = ds at *
  have hov : (⟨#[115, 110, 97, 112, 45]⟩ : ByteArray).size + (strOfNums ds).size ≤ 1000000 := by rw [strOf_sz]; show 5 + _ ≤ _; omega
  have hps : strOfNums pre12 = ⟨#[115, 110, 97, 112, 45]⟩ := by decide +kernel
  go_enter Tryz.func16, Tryz.ntmps16
  go_wp2_with fail
  refine kd.mono ?_
  rintro _ w1 ⟨rfl, hb1⟩
  go_wp2
  go_ret
  exact ⟨by rw [HN.out, HF.out, ← strOf_app, hps]; rfl, hb1⟩
set_option maxRecDepth 100000 in
set_option maxHeartbeats 1000000 in
theorem rindex12_any (x : ByteArray) (hs : x.size ≤ maxLen) (w : World) : Calls Tryz.prog 13 #[.string x] w fun e w' => e = .returned (.tuple #[.int .i64 (num12 x).1, .bool (num12 x).2]) ∧ Below w.heap.size w w' := by
  have hp : natsOf (⟨#[115, 110, 97, 112, 45]⟩ : ByteArray) = pre12 := by decide +kernel
  have k1 := count11_any x (⟨#[115, 110, 97, 112, 45]⟩ : ByteArray) hs (by decide) w
  rw [hp] at k1
  have HR : Hid (num12 x = number11 pre12 (natsOf x)) := rfl
  generalize num12 x = R at *
  rw [← HR.out] at k1
  clear HR
  go_enter Tryz.func13, Tryz.ntmps13
  go_wp2_with fail
  refine k1.mono ?_
  rintro _ w1 ⟨rfl, hb1⟩
  go_wp2
  go_ret2
  exact ⟨rfl, hb1⟩
end Go.Proofs.YthlelcmifolnfaaGreatDoor

namespace Go.Proofs.YthlelcmifolnfaaGreatDoor
open Go.RowKit Go.Shelf Go.Maps
attribute [local go_sem ↓] ldS_exec stS_exec ldS_execI stS_execI ldS_run ldS_box oc_int oc_bool oc_string oc_slice oc_pointer
attribute [local go_sem ↓] slF_exec slF_execI
theorem row_one12 (W : World) (B : Nat) (u : Value) (hB : B ≤ W.heap.size) : (W.alloc (.cells #[u] 25)).ownsRow B 25 1 (.slice (some ⟨W.heap.size, 0, none⟩) 1 1) 1 [u] :=
  ⟨rfl, .inr ⟨W.heap.size, 1, #[u], rfl, hB, heap_alloc_new W _, Nat.le_refl _, by unfold maxLen; omega, rfl, rfl⟩⟩
set_option maxRecDepth 100000 in
set_option maxHeartbeats 1000000 in
theorem rframe_own (v : Value) (xs : List Int) (w : World) (hv : Has w v xs) (hl : xs.length ≤ 1048576) (hB : IsB xs) :
    Calls Tryz.prog 50 #[v] w fun e w' => ∃ v', e = .returned v' ∧ Owns w' w.heap.size 5 v' (frameB xs) ∧ Below w.heap.size w w' := by
  obtain ⟨i0, hi, hz0, hz1, hz2⟩ := info_parts info8c
  obtain ⟨p, c, rfl, hc, hnone, hcell⟩ := id hv
  clear hnone hcell
  have hsb := sumS_bd (frameH xs)
  go_enter Tryz.func50, Tryz.ntmps50
  go_wp2_with fail
  refine (rlow_any _ 3 _ (by omega)).mono ?_
  rintro e w1 ⟨v1, rfl, ho1, hb1⟩
  have hol : Owns (w.alloc (.cells #[.int .u8 197] 5)) w.heap.size 5 (.slice (some ⟨w.heap.size, 0, none⟩) 1 1) [197] := Owns.lit w w.heap.size [197] 5 (Nat.le_refl _) (by simp)
  have HOL : Hid (Owns w1 w.heap.size 5 (.slice (some ⟨w.heap.size, 0, none⟩) 1 1) [197]) := hol.below hb1 (Nat.le_refl _)
  have hb01 : Below w.heap.size w w1 := ((Below.refl w.heap.size w).alloc (Nat.le_refl _) _).trans (hb1.mono (by simp))
  clear hol hb1
  go_wp2_with (first
    | (at_builtin; refine ap_slice _ rfl (.tmp 7) (.tmp 11) 25 rfl w.heap.size 5 i0 Tryz.underlying25 hi hz0 hz1 hz2 _ [197] _ rfl (by exact ho1.has) (by exact HOL.out) (by simp) (by rw [lowB_length]; omega) (by exact hb01.size) ?_; intro v2 w2 ho2 hb2)
    | (at_builtin; refine ap_slice _ rfl (.tmp 13) (.tmp 14) 25 rfl w.heap.size 5 i0 Tryz.underlying25 hi hz0 hz1 hz2 _ _ xs rfl (by exact hv.below (hb01.trans hb2) (Nat.le_refl _)) (by exact ho2) (by simp [lowB]) (by omega) (by exact (hb01.trans hb2).size) ?_; intro v3 w3 ho3 hb3))
  have hb03 : Below w.heap.size w w3 := (hb01.trans hb2).trans hb3
  have ho : Owns w3 w.heap.size 5 v3 (frameH xs) := ho3
  clear ho3 ho2 ho1 hb2 hb3 hb01 HOL
  refine same_mono (rsum_any _ (frameH xs) _ ho.has (by rw [frameH_length]; omega) (frameH_isB hB)) ?_
  go_wp2_with fail
  refine (rlow_any _ 4 _ (by omega)).mono ?_
  rintro e w4 ⟨v4, rfl, ho4, hb4⟩
  have HO : Hid (Owns w4 w.heap.size 5 v3 (frameH xs)) := ho.below hb4 (Nat.le_refl _)
  have hb04 : Below w.heap.size w w4 := hb03.trans (hb4.mono hb03.size)
  clear ho hb4 hb03
  go_wp2_with (at_builtin; refine ap_slice _ rfl (.tmp 16) (.tmp 20) 25 rfl w.heap.size 5 i0 Tryz.underlying25 hi hz0 hz1 hz2 _ (frameH xs) _ rfl (by exact ho4.has) (by exact HO.out) (by rw [frameH_length]; omega) (by rw [lowB_length]; omega) (by exact hb04.size) ?_; intro v5 w5 ho5 hb5)
  go_ret
  exact ⟨_, rfl, ho5, hb04.trans hb5⟩
def some12 (s : Snap10) (j : Nat) : List (List Int) := frameB (headB12 s (snapB s)) :: ((List.range j).map (piece12 (snapB s))).map frameB
theorem some_all12 (s : Snap10) : some12 s (npiece12 (snapB s)) = chunks12 s := by
  unfold some12 chunks12 pieces12
  rfl
theorem some_snoc12 (s : Snap10) (j : Nat) : some12 s (j + 1) = some12 s j ++ [frameB (piece12 (snapB s) j)] := by
  unfold some12
  rw [List.range_succ, List.map_append, List.map_append, List.cons_append]
  rfl
def lenV12 : Value → Nat
  | .slice _ n _ => n
  | _ => 0
structure RowD (w : World) (B : Nat) (s : Sl10) (ys : List (Sl10 × List Int)) : Prop where
  row : RowC w B s ys
  ap : ApartC s ys

theorem grow12 {w8 wr w10 : World} {l s10 : Sl10} {ys : List (Sl10 × List Int)} {bs : List Int} (hR : RowD wr w8.heap.size l ys) (hb10 : Below wr.heap.size wr w10) (hs10 : ∀ k, inSl s10 k → wr.heap.size ≤ k ∧ k < w10.heap.size) (ho10 : Has w10 (.slice s10.p s10.n s10.c) bs) (hb : Below w8.heap.size w8 wr)
    {l2 : Sl10} {w12 : World} (h1 : w12.ownsRow w8.heap.size 25 1 (.slice l2.p l2.n l2.c) (ys.length + 1) (ys.map slV ++ [.slice s10.p s10.n s10.c])) (h2 : (w10.alloc (.cells #[.slice s10.p s10.n s10.c] 25)).grownBy w12 (Value.slice l.p l.n l.c).ownBlock)
    (h3 : (Value.slice l2.p l2.n l2.c).ownBlock = (Value.slice l.p l.n l.c).ownBlock ∨ ∃ k, (Value.slice l2.p l2.n l2.c).ownBlock = some k ∧ (w10.alloc (.cells #[.slice s10.p s10.n s10.c] 25)).heap.size ≤ k) : RowD w12 w8.heap.size l2 (ys ++ [(s10, bs)]) ∧ Below w8.heap.size w8 w12 := by
  have hba : Below w10.heap.size w10 (w10.alloc (.cells #[.slice s10.p s10.n s10.c] 25)) := (Below.refl _ _).alloc (Nat.le_refl _) _
  have hza : (w10.alloc (.cells #[.slice s10.p s10.n s10.c] 25)).heap.size = w10.heap.size + 1 := by simp
  generalize w10.alloc (.cells #[.slice s10.p s10.n s10.c] 25) = w11 at *
  have hz10 := hb10.size
  have hz12 := h2.size
  have hzb := hb.size
  have D11 := (hR.row.below hb10).below hba
  have ho11 := ho10.below hba (Nat.le_refl _)
  have hlt : ∀ k, (Value.slice l.p l.n l.c).ownBlock = some k → w8.heap.size ≤ k ∧ k < wr.heap.size := fun k hk => World.ownsRow.lt hR.row.row k hk
  refine ⟨⟨⟨by rw [List.map_append, List.length_append]; exact h1, fun y hy => ?_⟩, fun y hy k hk e => ?_⟩, ?_⟩
  · rcases List.mem_append.1 hy with hy | hy
    · have h := D11.has y hy
      exact h.keepS12 (s := y.1) (S := inSl y.1) ⟨hz12, fun k hk => h2.block k (Has.inSl_lt (s := y.1) h hk) fun e => hR.ap y hy k hk e.symm⟩ (fun k hk => hk)
    · rw [List.mem_singleton.1 hy]
      exact ho11.keepS12 (s := s10) (S := inSl s10) ⟨hz12, fun k hk => h2.block k (Has.inSl_lt (s := s10) ho11 hk) fun e => by have := (hlt k e.symm).2; have := (hs10 k hk).1; omega⟩ (fun k hk => hk)
  · rcases List.mem_append.1 hy with hy | hy
    · have hkl := Has.inSl_lt (s := y.1) (D11.has y hy) hk
      rcases h3 with h3 | ⟨g, h3, h4⟩
      · exact hR.ap y hy k hk (by rw [← h3]; exact e)
      · rw [h3] at e; cases e; omega
    · rw [List.mem_singleton.1 hy] at hk
      have hkl := hs10 k hk
      rcases h3 with h3 | ⟨g, h3, h4⟩
      · rw [h3] at e
        have := (hlt k e).2
        omega
      · rw [h3] at e; cases e; omega
  · exact (hb.trans (hb10.mono hzb)).trans (((hba.mono (by omega))).trans ((Below.refl _ w11).grown h2 (by omega) fun k hk => (hlt k hk).1))
theorem Has.back12 {w8 wr : World} {s : Sl10} {xs : List Int} (h : Has wr (.slice s.p s.n s.c) xs) (hb : Below w8.heap.size w8 wr) (hi : ∀ k, inSl s k → k < w8.heap.size) : Has w8 (.slice s.p s.n s.c) xs := by
  obtain ⟨q, d, e, h1, h2, h3⟩ := h
  simp only [Value.slice.injEq] at e
  obtain ⟨e1, e2, e3⟩ := e
  refine ⟨q, d, by rw [e1, e2, e3], h1, h2, fun h0 => ?_⟩
  obtain ⟨b, o, hp, hbl, hc⟩ := h3 h0
  have hlt := hi b ⟨by omega, ⟨b, o, none⟩, by rw [e1, hp], rfl⟩
  exact ⟨b, o, hp, hlt, fun i hi => (hb.cell (p := ⟨b, o + i, none⟩) hlt).symm.trans (hc i hi)⟩

def NewC (B : Nat) (ys : List (Sl10 × List Int)) : Prop := ∀ y ∈ ys, ∀ k, inSl y.1 k → B ≤ k
theorem NewC.nil (B : Nat) : NewC B [] := fun _ h => by cases h
theorem NewC.snoc {B : Nat} {ys : List (Sl10 × List Int)} (h : NewC B ys) {s : Sl10} (bs : List Int) (hs : ∀ k, inSl s k → B ≤ k) : NewC B (ys ++ [(s, bs)]) := fun y hy k hk => by
  rcases List.mem_append.1 hy with hy | hy
  · exact h y hy k hk
  · rw [List.mem_singleton.1 hy] at hk
    exact hs k hk
def ChN (x : SnapV) (w : World) (e : Ending) (w' : World) : Prop := ∃ (s : Sl10) (ys : List (Sl10 × List Int)), e = .returned (.slice s.p s.n s.c) ∧ ys.map Prod.snd = chs12 x.s ∧ RowC w' w.heap.size s ys ∧ NewC w.heap.size ys ∧ Below w.heap.size w w'

set_option maxRecDepth 100000 in
set_option maxHeartbeats 1000000 in
theorem rchunksN_any (x : SnapV) (w : World) (hF : FitsS w x) (hd : x.d.length ≤ 1048576) : Calls Tryz.prog 8 #[.agg x.arr] w (ChN x w) := by
  have hb1 : Below w.heap.size w (w.alloc (.cells x.arr 27)) := (Below.refl _ _).alloc (Nat.le_refl _) _
  have hx1 : SnapAt (w.alloc (.cells x.arr 27)) w.heap.size x := heap_alloc_new w _
  have hl1 := ldS_box _ _ _ _ _ hx1 rfl
  have kg := rgoodSnap_any x _ (hF.below hb1)
  have HX1 : Hid _ := hx1
  have HB1 : Hid _ := hb1
  have HF : Hid (FitsS w x) := hF
  have HC : Hid (chs12 x.s = if goodS10 x.s = true then chunks12 x.s else []) := rfl
  clear hx1 hF
  go_enter Tryz.func8, Tryz.ntmps8
  go_wp2_with fail
  refine kg.mono ?_
  rintro _ w2 ⟨rfl, hb2⟩
  have HB2 : Hid (Below w.heap.size w w2) := HB1.out.trans (hb2.mono HB1.out.size)
  have x2 : SnapAt w2 w.heap.size x := box_below HX1.out hb2
  have HX2 : Hid _ := x2
  have hl2 := ldS_box _ _ _ _ _ x2 rfl
  clear kg hl1 hb1 hb2 x2
  cases hg : goodS10 x.s with
  | false =>
    rw [hg, if_neg (by decide)] at HC
    go_wp2
    go_ret
    exact ⟨nilS10, [], rfl, HC.out.symm, RowC.nil _ _, NewC.nil _, HB2.out⟩
  | true =>
    rw [if_pos hg] at HC
    have hfw := good_few hg
    have hfF : FewF x.f.f := ⟨by have : x.f.f.vs.length ≤ 9 := hfw.1; omega, by have : x.f.f.ls.length ≤ 9 := hfw.2.1; omega⟩
    have hsb := snapB_big (s := x.s) hfF hfw.2.2
    have HsB : Hid (IsB (snapB x.s)) := snapB_isB _ HF.out.b
    have kb := rbytesS_big w2 x (HF.out.below HB2.out) hfF hd
    go_wp2_with fail
    refine kb.mono ?_
    rintro _ w3 ⟨v3, rfl, hv3, hb3⟩
    obtain ⟨p3, c3, rfl, -⟩ := id hv3
    have HV3 : Hid (Has w3 (.slice p3 (snapB x.s).length c3) (snapB x.s)) := hv3
    have HB3 : Hid (Below w.heap.size w w3) := HB2.out.trans (hb3.mono HB2.out.size)
    have x3 : SnapAt w3 w.heap.size x := box_below HX2.out hb3
    have HX3 : Hid _ := x3
    obtain ⟨ci, ct, -⟩ := SnapAt.cells x3
    have lx := box_lt x3
    have kz := rzig_any x.i w3
    have hz1 := zig_bd x.i
    have hz2 := zig_bd x.t
    have kp := rput_cod (.slice none 0 0) [] (zigS x.i) w3 (Has.nil w3) (by simp) hz1.1 hz1.2
    have HHd : Hid (headB12 x.s (snapB x.s) = numB (zigS x.i) ++ numB (zigS x.t) ++ numB ((snapB x.s).length : Int) ++ numB (sumS (snapB x.s))) := rfl
    have hn1 := numB_le (zigS x.i)
    have hn2 := numB_le (zigS x.t)
    have hn3 := numB_le ((snapB x.s).length : Int)
    clear kb hv3 hb3 hl2 x3 hfw hfF
    go_wp2_with fail
    refine same_mono kz ?_
    go_wp2_with fail
    refine kp.mono ?_
    rintro _ w4 ⟨v4, rfl, ho4, hb4⟩
    rw [List.nil_append] at ho4
    have x4 : SnapAt w4 w.heap.size x := box_below HX3.out hb4
    have HX4 : Hid _ := x4
    obtain ⟨-, ct4, -⟩ := SnapAt.cells x4
    have lx4 := box_lt x4
    have kz2 := rzig_any x.t w4
    have kp2 := rput_cod v4 _ (zigS x.t) w4 ho4.has (by omega) hz2.1 hz2.2
    have HB4 : Hid (Below w3.heap.size w3 w4) := hb4
    clear kz kp ci ct x4 hb4 ho4
    go_wp2_with fail
    refine same_mono kz2 ?_
    go_wp2_with fail
    refine kp2.mono ?_
    rintro _ w5 ⟨v5, rfl, ho5, hb5⟩
    have HB5 : Hid (Below w3.heap.size w3 w5) := HB4.out.trans (hb5.mono HB4.out.size)
    have kp3 := rput_cod v5 _ ((snapB x.s).length : Int) w5 ho5.has (by rw [List.length_append]; omega) (by omega) (by omega)
    clear kz2 kp2 ct4 hb5 ho5
    go_wp2_with fail
    refine kp3.mono ?_
    rintro _ w6 ⟨v6, rfl, ho6, hb6⟩
    have HB6 : Hid (Below w3.heap.size w3 w6) := HB5.out.trans (hb6.mono HB5.out.size)
    have hsum := sumS_bd (snapB x.s)
    have ksu := rsum_any _ _ w6 (HV3.out.below HB6.out (Nat.le_refl _)) (by omega) HsB.out
    have kp4 := rput_cod v6 _ (sumS (snapB x.s)) w6 ho6.has (by rw [List.length_append, List.length_append]; omega) hsum.1 (by omega)
    rw [← HHd.out] at kp4
    clear kp3 hb6 ho6
    go_wp2_with fail
    refine same_mono ksu ?_
    go_wp2_with fail
    refine kp4.mono ?_
    rintro _ w7 ⟨v7, rfl, ho7, hb7⟩
    have HB7 : Hid (Below w3.heap.size w3 w7) := HB6.out.trans (hb7.mono HB6.out.size)
    have hhl := head_len x.s (snapB x.s)
    have kf := rframe_own v7 _ w7 ho7.has (by omega) (head_isB x.s (snapB x.s))
    clear ksu kp4 hb7 ho7
    go_wp2_with fail
    refine kf.mono ?_
    rintro _ w8 ⟨v8, rfl, ho8, hb8⟩
    obtain ⟨s8, rfl, hs8⟩ := ho8.slice12
    have hz7 := HB7.out.size
    have hz8 := hb8.size
    have r9 := row_one12 w8 w8.heap.size (.slice s8.p s8.n s8.c) (Nat.le_refl _)
    have hb9 : Below w8.heap.size w8 (w8.alloc (.cells #[.slice s8.p s8.n s8.c] 25)) := (Below.refl _ _).alloc (Nat.le_refl _) _
    have HD9 : Hid (RowD (w8.alloc (.cells #[.slice s8.p s8.n s8.c] 25)) w8.heap.size ⟨some ⟨w8.heap.size, 0, none⟩, 1, 1⟩ [(s8, frameB (headB12 x.s (snapB x.s)))]) := by
      refine ⟨⟨r9, fun y hy => ?_⟩, fun y hy k hk e => ?_⟩
      · rw [List.mem_singleton.1 hy]
        exact ho8.has.below hb9 (Nat.le_refl _)
      · rw [List.mem_singleton.1 hy] at hk
        have := (hs8 k hk).2
        have e2 : w8.heap.size = k := Option.some.inj e
        omega
    have HN8 : Hid (NewC w.heap.size [(s8, frameB (headB12 x.s (snapB x.s)))]) := fun y hy k hk => by
      rw [List.mem_singleton.1 hy] at hk
      have h1 := (hs8 k hk).1
      have h2 := HB3.out.size
      omega
    have HB8 : Hid (Below w3.heap.size w3 w8) := HB7.out.trans (hb8.mono HB7.out.size)
    have HV8 : Hid (Has w8 (.slice p3 (snapB x.s).length c3) (snapB x.s)) := HV3.out.below HB8.out (Nat.le_refl _)
    have HS0 : Hid (∀ k, inSl ⟨p3, (snapB x.s).length, c3⟩ k → k < w8.heap.size) := fun k hk => Has.inSl_lt (s := ⟨p3, (snapB x.s).length, c3⟩) HV8.out hk
    have HBw : Hid (Below w.heap.size w w8) := HB3.out.trans (HB8.out.mono HB3.out.size)
    have HAll : Hid (some12 x.s (npiece12 (snapB x.s)) = chunks12 x.s) := some_all12 x.s
    have HSn : Hid (∀ j, some12 x.s (j + 1) = some12 x.s j ++ [frameB (piece12 (snapB x.s) j)]) := some_snoc12 x.s
    have HSl : Hid (∀ j, (some12 x.s j).length = j + 1) := fun j => by unfold some12; simp
    have hnp : npiece12 (snapB x.s) ≤ 1000 := by unfold npiece12; omega
    have HS1 : Hid ([(s8, frameB (headB12 x.s (snapB x.s)))].map Prod.snd = some12 x.s 0) := rfl
    clear kf hb8 ho8 hs8 r9 HX4 HX3 HX2 HX1 HV3 hn1 hn2 hn3 hz1 hz2 hsum hhl HHd
    generalize some12 x.s = SM at *
    generalize hXX : snapB x.s = X at *
    generalize frameB (headB12 x.s X) = fh at *
    go_wp2
    go_loopw [3, 5] (fun s3 s5 wr => ∃ (j : Nat) (a3 l : Sl10) (ys : List (Sl10 × List Int)), s3 = .slice a3.p a3.n a3.c ∧ s5 = .slice l.p l.n l.c ∧ j ≤ npiece12 X ∧ Hid (Has wr (.slice a3.p a3.n a3.c) (X.drop (4096 * j))) ∧ Hid (∀ k, inSl a3 k → k < w8.heap.size) ∧ Hid (RowD wr w8.heap.size l ys) ∧ Hid (ys.map Prod.snd = SM j) ∧ Hid (NewC w.heap.size ys) ∧ Below w8.heap.size w8 wr) (fun s3 _ _ => lenV12 s3)
    case atStart => exact ⟨0, ⟨p3, X.length, c3⟩, ⟨some ⟨w8.heap.size, 0, none⟩, 1, 1⟩, [(s8, fh)], rfl, rfl, Nat.zero_le _, HV8.out.below hb9 (Nat.le_refl _), HS0, HD9, HS1, HN8, hb9⟩
    case round =>
      obtain ⟨j, a3, l, ys, rfl, rfl, hj, HV, HI3, HR, HY, HNw, hb⟩ := hrel
      have hn3 : a3.n = X.length - 4096 * j := by
        have := HV.out.sl12.1
        rw [List.length_drop] at this
        exact this
      have hyl : ys.length = j + 1 := by
        have := congrArg List.length HY.out
        rw [List.length_map, HSl.out] at this
        exact this
      by_cases hjn : j < npiece12 X
      · have hlt := npiece_lt.2 hjn
        by_cases h40 : a3.n < 4096
        · have h40' : (a3.n : Int) < 4096 := by omega
          have hsl := slF_at12 (s := a3) HV.out (lo := a3.n) (by omega)
          obtain ⟨s', hcv, hcut, hin⟩ := HV.out.cut12 (lo := a3.n) (by omega)
          rw [hcv] at hsl
          rw [List.drop_drop, show X.drop (4096 * j + a3.n) = X.drop (4096 * (j + 1)) by rw [List.drop_of_length_le (by omega), List.drop_of_length_le (by omega)]] at hcut
          have hsn : s'.n = X.length - 4096 * (j + 1) := by
            have := hcut.sl12.1
            rw [List.length_drop] at this
            exact this
          have HI2 : Hid (∀ k, inSl s' k → k < w8.heap.size) := fun k hk => HI3.out k (hin k hk)
          have HCut : Hid (∀ V, Below w8.heap.size w8 V → Has V (.slice s'.p s'.n s'.c) (X.drop (4096 * (j + 1)))) := fun V hV => (hcut.back12 hb HI2.out).below hV (Nat.le_refl _)
          have hpc : Has wr (.slice a3.p a3.n a3.c) (piece12 X j) := by
            have h := HV.out.takeN a3.n (by rw [List.length_drop]; omega)
            rw [show (X.drop (4096 * j)).take a3.n = piece12 X j by unfold piece12; rw [List.take_of_length_le (by rw [List.length_drop]; omega), List.take_of_length_le (by rw [List.length_drop]; omega)]] at h
            exact h
          have kf := rframe_own _ _ wr hpc (by have := piece_len X j; omega) (piece_isB HsB.out j)
          have HYn : Hid (∀ s10 : Sl10, (ys ++ [(s10, frameB (piece12 X j))]).map Prod.snd = SM (j + 1)) := fun s10 => by rw [List.map_append, HY.out, HSn.out]; rfl
          have HN3 : Hid (a3.n = X.length - 4096 * j) := hn3
          have HSN : Hid (s'.n = X.length - 4096 * (j + 1)) := hsn
          have HLt : Hid (4096 * j < X.length) := hlt
          have hnl : a3.n ≤ 1200000 := by omega
          have hnc : a3.n ≤ a3.c := HV.out.sl12.2.1
          have hn0 : 0 < a3.n := by omega
          clear hcut hin hpc hn3 hsn hlt
          go_wp2_with fail
          refine kf.mono ?_
          rintro _ w10 ⟨v10, rfl, ho10, hb10⟩
          obtain ⟨s10, rfl, hs10⟩ := ho10.slice12
          have hz10 := hb10.size
          have hzb := hb.size
          have hrow := ((HR.out.row.below hb10).below ((Below.refl w10.heap.size w10).alloc (Nat.le_refl _) (.cells #[.slice s10.p s10.n s10.c] 25))).row
          have hR11 : HasR (w10.alloc (.cells #[.slice s10.p s10.n s10.c] 25)) 1 (.slice (some ⟨w10.heap.size, 0, none⟩) 1 1) 1 [.slice s10.p s10.n s10.c] := hasR_lit (size := 1) (xs := [.slice s10.p s10.n s10.c]) (e := 25) (f := (0, 0)) (k := w10.heap.size) (heap_alloc_new w10 _) 1 1 rfl (Nat.le_refl _)
          have A5 : w8.heap.size ≤ (w10.alloc (.cells #[.slice s10.p s10.n s10.c] 25)).heap.size := by simp; omega
          have HSt : Hid (∀ (l2 : Sl10) (w12 : World), w12.ownsRow w8.heap.size 25 1 (.slice l2.p l2.n l2.c) (ys.length + 1) (ys.map slV ++ [.slice s10.p s10.n s10.c]) → (w10.alloc (.cells #[.slice s10.p s10.n s10.c] 25)).grownBy w12 (Value.slice l.p l.n l.c).ownBlock → ((Value.slice l2.p l2.n l2.c).ownBlock = (Value.slice l.p l.n l.c).ownBlock ∨ ∃ k, (Value.slice l2.p l2.n l2.c).ownBlock = some k ∧ (w10.alloc (.cells #[.slice s10.p s10.n s10.c] 25)).heap.size ≤ k) → RowD w12 w8.heap.size l2 (ys ++ [(s10, frameB (piece12 X j))]) ∧ Below w8.heap.size w8 w12) := fun l2 w12 h1 h2 h3 => grow12 HR.out hb10 hs10 ho10.has hb h1 h2 h3
          have HNn : Hid (NewC w.heap.size (ys ++ [(s10, frameB (piece12 X j))])) := HNw.out.snoc _ fun k hk => by
            have h1 := (hs10 k hk).1
            have h2 := HBw.out.size
            omega
          clear hb10 ho10 hs10 kf HNw
          go_wp2_with (at_builtin; refine ap_row elemR12 _ rfl _ _ rfl w8.heap.size _ _ ys.length 1 (ys.map slV) [.slice s10.p s10.n s10.c] rfl rfl hR11 (by intro u hu; simp at hu; subst hu; rfl) hrow (by omega) (by omega) A5 ?_; intro v12 w12 ho12 hg12 hat12; refine Halt8.out ?_)
          obtain ⟨p12, n12, c12, rfl⟩ := row_shape12 ho12
          obtain ⟨e1, e2⟩ := HSt.out ⟨p12, n12, c12⟩ w12 ho12 hg12 hat12
          have HR2 : Hid (RowD w12 w8.heap.size ⟨p12, n12, c12⟩ (ys ++ [(s10, frameB (piece12 X j))])) := e1
          have HB2' : Hid (Below w8.heap.size w8 w12) := e2
          clear ho12 hg12 hat12 e1 e2 hrow hR11 HSt
          constructor
          go_wp2
          go_roundw
          case rel => exact ⟨j + 1, s', ⟨p12, n12, c12⟩, ys ++ [(s10, frameB (piece12 X j))], rfl, rfl, by omega, HCut.out w12 HB2'.out, HI2, HR2, HYn.out s10, HNn, HB2'.out⟩
          case measure =>
            have h1 := HN3.out
            have h2 := HSN.out
            have h3 := HLt.out
            simp only [lenV12]
            omega
        · have h40' : ¬ (a3.n : Int) < 4096 := by omega
          have hsl : ∀ W, (slF (.slice a3.p a3.n a3.c) (.int .i64 4096)).run Tryz.prog W = .ok (cutV a3.p a3.n a3.c 4096) W := slF_at12 (s := a3) HV.out (lo := 4096) (by omega)
          obtain ⟨s', hcv, hcut, hin⟩ := HV.out.cut12 (lo := 4096) (by omega)
          rw [hcv] at hsl
          rw [List.drop_drop, show 4096 * j + 4096 = 4096 * (j + 1) by omega] at hcut
          have hsn : s'.n = X.length - 4096 * (j + 1) := by
            have := hcut.sl12.1
            rw [List.length_drop] at this
            exact this
          have HI2 : Hid (∀ k, inSl s' k → k < w8.heap.size) := fun k hk => HI3.out k (hin k hk)
          have HCut : Hid (∀ V, Below w8.heap.size w8 V → Has V (.slice s'.p s'.n s'.c) (X.drop (4096 * (j + 1)))) := fun V hV => (hcut.back12 hb HI2.out).below hV (Nat.le_refl _)
          have hpc : Has wr (.slice a3.p 4096 a3.c) (piece12 X j) := by
            have h := HV.out.takeN 4096 (by rw [List.length_drop]; omega)
            rw [show (X.drop (4096 * j)).take 4096 = piece12 X j by rfl] at h
            exact h
          have kf := rframe_own _ _ wr hpc (by have := piece_len X j; omega) (piece_isB HsB.out j)
          have HYn : Hid (∀ s10 : Sl10, (ys ++ [(s10, frameB (piece12 X j))]).map Prod.snd = SM (j + 1)) := fun s10 => by rw [List.map_append, HY.out, HSn.out]; rfl
          have HN3 : Hid (a3.n = X.length - 4096 * j) := hn3
          have HSN : Hid (s'.n = X.length - 4096 * (j + 1)) := hsn
          have HLt : Hid (4096 * j < X.length) := hlt
          have hnl : a3.n ≤ 1200000 := by omega
          have hnc : a3.n ≤ a3.c := HV.out.sl12.2.1
          have hn0 : 0 < a3.n := by omega
          clear hcut hin hpc hn3 hsn hlt
          go_wp2_with fail
          refine kf.mono ?_
          rintro _ w10 ⟨v10, rfl, ho10, hb10⟩
          obtain ⟨s10, rfl, hs10⟩ := ho10.slice12
          have hz10 := hb10.size
          have hzb := hb.size
          have hrow := ((HR.out.row.below hb10).below ((Below.refl w10.heap.size w10).alloc (Nat.le_refl _) (.cells #[.slice s10.p s10.n s10.c] 25))).row
          have hR11 : HasR (w10.alloc (.cells #[.slice s10.p s10.n s10.c] 25)) 1 (.slice (some ⟨w10.heap.size, 0, none⟩) 1 1) 1 [.slice s10.p s10.n s10.c] := hasR_lit (size := 1) (xs := [.slice s10.p s10.n s10.c]) (e := 25) (f := (0, 0)) (k := w10.heap.size) (heap_alloc_new w10 _) 1 1 rfl (Nat.le_refl _)
          have A5 : w8.heap.size ≤ (w10.alloc (.cells #[.slice s10.p s10.n s10.c] 25)).heap.size := by simp; omega
          have HSt : Hid (∀ (l2 : Sl10) (w12 : World), w12.ownsRow w8.heap.size 25 1 (.slice l2.p l2.n l2.c) (ys.length + 1) (ys.map slV ++ [.slice s10.p s10.n s10.c]) → (w10.alloc (.cells #[.slice s10.p s10.n s10.c] 25)).grownBy w12 (Value.slice l.p l.n l.c).ownBlock → ((Value.slice l2.p l2.n l2.c).ownBlock = (Value.slice l.p l.n l.c).ownBlock ∨ ∃ k, (Value.slice l2.p l2.n l2.c).ownBlock = some k ∧ (w10.alloc (.cells #[.slice s10.p s10.n s10.c] 25)).heap.size ≤ k) → RowD w12 w8.heap.size l2 (ys ++ [(s10, frameB (piece12 X j))]) ∧ Below w8.heap.size w8 w12) := fun l2 w12 h1 h2 h3 => grow12 HR.out hb10 hs10 ho10.has hb h1 h2 h3
          have HNn : Hid (NewC w.heap.size (ys ++ [(s10, frameB (piece12 X j))])) := HNw.out.snoc _ fun k hk => by
            have h1 := (hs10 k hk).1
            have h2 := HBw.out.size
            omega
          clear hb10 ho10 hs10 kf HNw
          go_wp2_with (at_builtin; refine ap_row elemR12 _ rfl _ _ rfl w8.heap.size _ _ ys.length 1 (ys.map slV) [.slice s10.p s10.n s10.c] rfl rfl hR11 (by intro u hu; simp at hu; subst hu; rfl) hrow (by omega) (by omega) A5 ?_; intro v12 w12 ho12 hg12 hat12; refine Halt8.out ?_)
          obtain ⟨p12, n12, c12, rfl⟩ := row_shape12 ho12
          obtain ⟨e1, e2⟩ := HSt.out ⟨p12, n12, c12⟩ w12 ho12 hg12 hat12
          have HR2 : Hid (RowD w12 w8.heap.size ⟨p12, n12, c12⟩ (ys ++ [(s10, frameB (piece12 X j))])) := e1
          have HB2' : Hid (Below w8.heap.size w8 w12) := e2
          clear ho12 hg12 hat12 e1 e2 hrow hR11 HSt
          constructor
          go_wp2
          go_roundw
          case rel => exact ⟨j + 1, s', ⟨p12, n12, c12⟩, ys ++ [(s10, frameB (piece12 X j))], rfl, rfl, by omega, HCut.out w12 HB2'.out, HI2, HR2, HYn.out s10, HNn, HB2'.out⟩
          case measure =>
            have h1 := HN3.out
            have h2 := HSN.out
            have h3 := HLt.out
            simp only [lenV12]
            omega
      · obtain rfl : j = npiece12 X := by omega
        have hlt : ¬ 4096 * npiece12 X < X.length := fun h => absurd (npiece_lt.1 h) (by omega)
        have h0 : a3.n = 0 := by omega
        have HE : Hid (ChN x w (.returned (.slice l.p l.n l.c)) wr) := by
          have hbw := HBw.out.trans (hb.mono HBw.out.size)
          refine ⟨l, ys, rfl, ?_, HR.out.row.mono HBw.out.size, HNw.out, hbw⟩
          rw [HY.out, HAll.out, HC.out]
        rw [h0]
        clear HR HV HY hn3 h0
        go_wp2
        go_ret
        exact HE.out
theorem rchunksP_any (x : SnapV) (w : World) (hF : FitsS w x) (hd : x.d.length ≤ 1048576) : Calls Tryz.prog 8 #[.agg x.arr] w (ChE x w) := (rchunksN_any x w hF hd).mono fun _ _ h => by
  obtain ⟨s, ys, h1, h2, h3, -, h5⟩ := h
  exact ⟨s, ys, h1, h2, h3, h5⟩
end Go.Proofs.YthlelcmifolnfaaGreatDoor
