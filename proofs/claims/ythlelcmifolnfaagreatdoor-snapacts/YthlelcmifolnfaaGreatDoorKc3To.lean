import Derived.Test.YthlelcmifolnfaaGreatDoorKc1To
import Derived.Test.YthlelcmifolnfaaGreatDoorEq4To
import Derived.Test.YthlelcmifolnfaaGreatDoorLxTo
import Derived.Deep.RegionHeld3
namespace Go.Proofs.YthlelcmifolnfaaGreatDoor
open Go.RowKit Go.Shelf
attribute [local go_sem ↓] ldS_exec stS_exec ldS_execI stS_execI ldS_run ldS_box oc_int oc_bool oc_string oc_slice oc_pointer
set_option maxRecDepth 100000 in
set_option maxHeartbeats 1000000 in
theorem headS_any (x : SnapV) (v : Value) (bs : List Int) (w : World) (hT : Tab w) (hv : Has w v bs) (hB : IsB bs) (hl : bs.length ≤ 1073741824) :
    Calls Tryz.prog 107 #[.agg x.arr, v] w fun e w' => ∃ v', e = .returned v' ∧ Owns w' w.heap.size 5 v' (headB12 x.s bs) ∧ Below w.heap.size w w' := by
  have hb1 : Below w.heap.size w (w.alloc (.cells x.arr 27)) := (Below.refl _ _).alloc (Nat.le_refl _) _
  have hbox : SnapAt (w.alloc (.cells x.arr 27)) w.heap.size x := heap_alloc_new w _
  have hz1 : (w.alloc (.cells x.arr 27)).heap.size = w.heap.size + 1 := by simp
  obtain ⟨i, t, ⟨⟨p, n, c⟩, ⟨q, m, d⟩, f⟩, ⟨a, b, e⟩, dd⟩ := x
  have HE : Hid (headB12 (SnapV.s ⟨i, t, ⟨⟨p, n, c⟩, ⟨q, m, d⟩, f⟩, ⟨a, b, e⟩, dd⟩) bs = numB (zigS i) ++ numB (zigS t) ++ numB (bs.length : Int) ++ numB (sumS bs)) := rfl
  have z1 := zig_bd i
  have z2 := zig_bd t
  have z3 := sumS_bd bs
  have l1 := numB_le (zigS i)
  have l2 := numB_le (zigS t)
  have l3 := numB_le (bs.length : Int)
  have hvb := hv.below hb1 (Nat.le_refl _)
  have k1 := put_any (.slice none 0 0) [] (zigS i) (w.alloc (.cells (SnapV.arr ⟨i, t, ⟨⟨p, n, c⟩, ⟨q, m, d⟩, f⟩, ⟨a, b, e⟩, dd⟩) 27)) (Has.nil _) (by simp) (by omega) (by omega)
  rw [List.nil_append] at k1
  obtain ⟨vp, vc, rfl, hvr⟩ := id hv
  clear hvr
  generalize hZ1 : zigS i = u1 at *
  generalize hZ2 : zigS t = u2 at *
  generalize hS3 : sumS bs = u3 at *
  have KZ1 : Hid (∀ W, Calls Tryz.prog 146 #[.int .i64 i] W fun e w' => e = .returned (.int .u64 u1) ∧ w' = W) := fun W => by rw [← hZ1]; exact zig_any i W
  have KZ2 : Hid (∀ W, Calls Tryz.prog 146 #[.int .i64 t] W fun e w' => e = .returned (.int .u64 u2) ∧ w' = W) := fun W => by rw [← hZ2]; exact zig_any t W
  have KS : Hid (∀ W, Tab W → Has W (.slice vp bs.length vc) bs → Calls Tryz.prog 114 #[.slice vp bs.length vc] W fun e w' => e = .returned (.int .u32 u3) ∧ w' = W) := fun W h1 h2 => by rw [← hS3]; exact sum_cod _ _ W h1 h2 (by omega) hB
  clear hZ1 hZ2 hS3
  unfold SnapV.arr at *
  dsimp only at *
  have HT : Hid (Tab w) := hT
  have HV : Hid (Has w (.slice vp bs.length vc) bs) := hv
  obtain ⟨c0, c1, -⟩ := hbox.cells
  have hlt := box_lt hbox
  clear hT hv hvb hB
  go_enter Tryz.func107, Tryz.ntmps107
  go_wp2_with fail
  refine same_mono (KZ1.out _) ?_
  go_wp2_with fail
  refine k1.mono ?_
  rintro _ w1 ⟨v1, rfl, ho1, hb2⟩
  have hbox1 : SnapAt w1 w.heap.size ⟨i, t, ⟨⟨p, n, c⟩, ⟨q, m, d⟩, f⟩, ⟨a, b, e⟩, dd⟩ := box_below hbox hb2
  have HB1 : Hid (Below w.heap.size w w1) := hb1.trans (hb2.mono hb1.size)
  obtain ⟨-, d1, -⟩ := hbox1.cells
  dsimp only at d1
  have hlt1 := box_lt hbox1
  have k2 := put_any v1 (numB u1) u2 w1 ho1.has (by omega) (by omega) (by omega)
  clear k1 c0 c1 hbox hbox1 ho1 hb2 hb1 hlt KZ1 hz1
  go_wp2_with fail
  refine same_mono (KZ2.out _) ?_
  go_wp2_with fail
  refine k2.mono ?_
  rintro _ w2 ⟨v2, rfl, ho2, hb2⟩
  have HB2 : Hid (Below w.heap.size w w2) := HB1.out.trans (hb2.mono HB1.out.size)
  have k3 := put_any v2 (numB u1 ++ numB u2) (bs.length : Int) w2 ho2.has (by rw [List.length_append]; omega) (by omega) (by omega)
  clear k2 ho2 hb2 d1 hlt1 KZ2
  go_wp2_with fail
  refine k3.mono ?_
  rintro _ w3 ⟨v3, rfl, ho3, hb3⟩
  have HB3 : Hid (Below w.heap.size w w3) := HB2.out.trans (hb3.mono HB2.out.size)
  have ks := KS.out w3 (HT.out.below HB3.out (Nat.le_refl _)) (HV.out.below HB3.out (Nat.le_refl _))
  have k4 := put_any v3 (numB u1 ++ numB u2 ++ numB (bs.length : Int)) u3 w3 ho3.has (by rw [List.length_append, List.length_append]; omega) (by omega) (by omega)
  clear k3 ho3 hb3
  go_wp2_with fail
  refine same_mono ks ?_
  go_wp2_with fail
  refine k4.mono ?_
  rintro _ w4 ⟨v4, rfl, ho4, hb4⟩
  have HB4 : Hid (Below w.heap.size w w4) := HB3.out.trans (hb4.mono HB3.out.size)
  have HO4 : Hid (Owns w4 w.heap.size 5 v4 (numB u1 ++ numB u2 ++ numB (bs.length : Int) ++ numB u3)) := ho4.mono HB3.out.size
  clear k4 ho4 hb4 ks
  go_wp2
  go_ret
  exact ⟨_, rfl, by rw [HE.out]; exact HO4.out, HB4.out⟩

theorem chunksS_any (x : SnapV) (w : World) : Calls Tryz.prog 44 #[.agg x.arr] w fun e w' => e = .returned (.func (.func 104) #[] #[.pointer (some ⟨w.heap.size, 0, none⟩)]) ∧ w' = w.alloc (.cells x.arr 27) := by
  have hmf : ∀ (fn : Fn) (first cap : Array Value) (w : World), (Instr.makeFunc fn first cap).run Tryz.prog w = .ok (.func fn first cap) w := fun _ _ _ _ => rfl
  obtain ⟨i, t, ⟨⟨p, n, c⟩, ⟨q, m, d⟩, f⟩, ⟨a, b, e⟩, dd⟩ := x
  unfold SnapV.arr
  dsimp only
  go_enter Tryz.func44, Tryz.ntmps44
  go_wp2
  go_ret
  exact ⟨rfl, rfl⟩

def inSl (s : Sl10) (k : Nat) : Prop := 0 < s.n ∧ ∃ a, s.p = some a ∧ a.block = k
def inSn (x : SnapV) (k : Nat) : Prop := inSl x.f.u k ∨ inSl x.f.v k ∨ inSl x.w k
def snS (x : SnapV) (Bm k : Nat) : Prop := k = 0 ∨ k = Bm ∨ inSn x k
theorem HasI.keepS12 {S : Nat → Prop} {X Y : World} {s : Sl10} {xs : List Int} (h : HasI X (.slice s.p s.n s.c) xs) (hk : KeepS S X Y) (hS : ∀ k, inSl s k → S k) : HasI Y (.slice s.p s.n s.c) xs := by
  obtain ⟨q, d, e, h1, h2, h3⟩ := h
  simp only [Value.slice.injEq] at e
  obtain ⟨e1, e2, e3⟩ := e
  refine ⟨q, d, by rw [e1, e2, e3], h1, h2, fun h0 => ?_⟩
  obtain ⟨b, o, hp, hb, hc⟩ := h3 h0
  have hs := hk.same b (hS b ⟨by omega, ⟨b, o, none⟩, by rw [e1, hp], rfl⟩)
  exact ⟨b, o, hp, Nat.lt_of_lt_of_le hb hk.size, fun i hi => (World.cell?_of_block (a := ⟨b, o + i, none⟩) hs).trans (hc i hi)⟩
theorem Has.keepS12 {S : Nat → Prop} {X Y : World} {s : Sl10} {xs : List Int} (h : Has X (.slice s.p s.n s.c) xs) (hk : KeepS S X Y) (hS : ∀ k, inSl s k → S k) : Has Y (.slice s.p s.n s.c) xs := by
  obtain ⟨q, d, e, h1, h2, h3⟩ := h
  simp only [Value.slice.injEq] at e
  obtain ⟨e1, e2, e3⟩ := e
  refine ⟨q, d, by rw [e1, e2, e3], h1, h2, fun h0 => ?_⟩
  obtain ⟨b, o, hp, hb, hc⟩ := h3 h0
  have hs := hk.same b (hS b ⟨by omega, ⟨b, o, none⟩, by rw [e1, hp], rfl⟩)
  exact ⟨b, o, hp, Nat.lt_of_lt_of_le hb hk.size, fun i hi => (World.cell?_of_block (a := ⟨b, o + i, none⟩) hs).trans (hc i hi)⟩
theorem Has.inSl_lt {X : World} {s : Sl10} {xs : List Int} (h : Has X (.slice s.p s.n s.c) xs) {k : Nat} (hk : inSl s k) : k < X.heap.size := by
  obtain ⟨q, d, e, h1, h2, h3⟩ := h
  simp only [Value.slice.injEq] at e
  obtain ⟨e1, e2, e3⟩ := e
  obtain ⟨h0, a, ha, rfl⟩ := hk
  obtain ⟨b, o, hp, hb, hc⟩ := h3 (by omega)
  rw [e1, hp] at ha
  cases ha
  exact hb
theorem HasI.inSl_lt {X : World} {s : Sl10} {xs : List Int} (h : HasI X (.slice s.p s.n s.c) xs) {k : Nat} (hk : inSl s k) : k < X.heap.size := by
  obtain ⟨q, d, e, h1, h2, h3⟩ := h
  simp only [Value.slice.injEq] at e
  obtain ⟨e1, e2, e3⟩ := e
  obtain ⟨h0, a, ha, rfl⟩ := hk
  obtain ⟨b, o, hp, hb, hc⟩ := h3 (by omega)
  rw [e1, hp] at ha
  cases ha
  exact hb
theorem FitsS.keepS12 {S : Nat → Prop} {X Y : World} {x : SnapV} (h : FitsS X x) (hk : KeepS S X Y) (hS : ∀ k, inSn x k → S k) : FitsS Y x :=
  ⟨h.i, h.t, ⟨h.f.u.keepS12 hk fun k hk => hS k (.inl hk), h.f.v.keepS12 hk fun k hk => hS k (.inr (.inl hk)), h.f.iu, h.f.iv, h.f.lu, h.f.lv⟩, h.w.keepS12 hk fun k hk => hS k (.inr (.inr hk)), h.b, h.l⟩
theorem FitsS.inSn_lt {X : World} {x : SnapV} (h : FitsS X x) {k : Nat} (hk : inSn x k) : k < X.heap.size := by
  rcases hk with hk | hk | hk
  · exact h.f.u.inSl_lt hk
  · exact h.f.v.inSl_lt hk
  · exact h.w.inSl_lt hk
theorem Tab.keepS12 {S : Nat → Prop} {X Y : World} (h : Tab X) (hk : KeepS S X Y) (h0 : S 0) : Tab Y := ⟨Nat.lt_of_lt_of_le h.1 hk.size, fun i hi => (World.cell?_of_block (a := ⟨0, i, none⟩) (hk.same 0 h0)).trans (h.2 i hi)⟩
structure OkC (L : List (List Int)) (A : Nat) (T : Nat → Prop) (pre : List (Sl10 × List Int)) (y : Sl10 × List Int) (X : World) : Prop where
  has : Has X (.slice y.1.p y.1.n y.1.c) y.2
  pre : (pre ++ [y]).map Prod.snd <+: L
  isB : IsB y.2
  len : y.2.length ≤ 4104
  own : ∀ k, inSl y.1 k → ¬ T k ∧ A ≤ k
theorem Has.soft {X Y : World} {v : Value} {xs : List Int} (h : Has X v xs) (hs : Soft X Y) : Has Y v xs := by
  obtain ⟨p, c, rfl, h1, h2, h3⟩ := h
  refine ⟨p, c, rfl, h1, h2, fun h0 => ?_⟩
  obtain ⟨b, o, hp, hb, hc⟩ := h3 h0
  refine ⟨b, o, hp, Nat.lt_of_lt_of_le hb hs.size, fun i hi => ?_⟩
  have h4 := hc i hi
  cases ho : X.heap[b]? with
  | none =>
    unfold World.cell? at h4
    dsimp only at h4
    rw [ho] at h4
    cases h4
  | some o =>
    have hcell : o.isCells = true := by
      unfold World.cell? at h4
      dsimp only at h4
      rw [ho] at h4
      cases o <;> first | rfl | cases h4
    rw [← h4]
    exact World.cell?_of_block (a := ⟨b, _, none⟩) ((hs.block b o ho hcell).trans ho.symm)
theorem OkC.soft {L : List (List Int)} {A : Nat} {T : Nat → Prop} {pre : List (Sl10 × List Int)} {y : Sl10 × List Int} {X Y : World} (h : OkC L A T pre y X) (hs : Soft X Y) : OkC L A T pre y Y := ⟨h.has.soft hs, h.pre, h.isB, h.len, h.own⟩
theorem Owns.slice12 {w : World} {B : Nat} {e : TypeId} {v : Value} {xs : List Int} (h : Owns w B e v xs) : ∃ s : Sl10, v = .slice s.p s.n s.c ∧ ∀ k, inSl s k → B ≤ k ∧ k < w.heap.size := by
  rcases h.2 with ⟨rfl, hn⟩ | ⟨g, cap, cur, rfl, hb1, hg, rest⟩
  · exact ⟨⟨none, 0, 0⟩, rfl, fun k hk => absurd hk.1 (Nat.lt_irrefl 0)⟩
  · refine ⟨⟨some ⟨g, 0, none⟩, _, cap⟩, rfl, fun k hk => ?_⟩
    obtain ⟨-, a, ha, rfl⟩ := hk
    cases ha
    exact ⟨hb1, (Array.getElem?_eq_some_iff.1 hg).1⟩
theorem chunks_at (s : Snap10) : (chunks12 s).length = 1 + npiece12 (snapB s) ∧ ∀ j, j < npiece12 (snapB s) → (chunks12 s)[1 + j]? = some (frameB (piece12 (snapB s) j)) := by
  unfold chunks12 pieces12
  generalize frameB (headB12 s (snapB s)) = h
  generalize snapB s = b
  refine ⟨by rw [List.length_cons, List.length_map, List.length_map, List.length_range]; omega, fun j hj => ?_⟩
  rw [Nat.add_comm, List.getElem?_cons_succ, List.getElem?_map, List.getElem?_map, List.getElem?_range hj, Option.map_some, Option.map_some]
theorem snapB_pos (s : Snap10) : 0 < (snapB s).length := by
  unfold snapB zigB
  simp only [List.length_append]
  have := numB_pos (zigS s.i)
  omega
structure HeadEnd (l Bm : Nat) (W W2 : World) (g n cb : Nat) (x : SnapV) (J Jx : (Nat → Prop) → List (Sl10 × List Int) → World → Prop) (a : Act) (Y : World) : Prop where
  ex : ∃ (bb : Bool) (v3 v4 : Value), a = { tmps := #[.func (.yield l) #[] #[], .pointer (some ⟨Bm, 0, none⟩), .pointer (some ⟨W.heap.size, 0, none⟩), .slice (some ⟨g, 0, none⟩) n cb, undef, .agg x.arr, .slice (some ⟨g, 0, none⟩) n cb, .func (.yield l) #[] #[], .agg x.arr, .slice (some ⟨g, 0, none⟩) n cb, v3, v4, .bool bb, .bool !bb, undef, undef, undef, undef, undef, undef, undef, undef], defers := [] } ∧ Hid (∃ (T : Nat → Prop) (y0 : Sl10 × List Int), (∀ k, T k → W.heap.size ≤ k ∧ k < Y.heap.size) ∧ (∀ k, W.heap.size ≤ k → k < W2.heap.size → T k) ∧ y0.2 = frameB (headB12 x.s (snapB x.s)) ∧ KeepS (snS x Bm) W Y ∧ W2.heap.size ≤ Y.heap.size ∧ (∀ k, W.heap.size ≤ k → k < W2.heap.size → Y.heap[k]? = W2.heap[k]?) ∧ if bb = true then J T [y0] Y else Jx T [y0] Y)
theorem RoundIn.inRound12 {F : Fence} {n : Nat} {P : Program} {l l' : Nat} {f : FuncId} {tmps : Array Value} {assign body : Code} {w : World} {R : Ending → World → Prop} (h : RoundIn F n P l f tmps assign body w R) :
    RoundIn (F.inRound l') n P l f tmps assign body w R := h
theorem on_drew12 {B : Nat} {w W : World} (h : Below B w W) : Below B w W.drew := ⟨h.os, h.tape, h.output, h.size, h.block⟩
set_option maxRecDepth 100000 in
set_option maxHeartbeats 1000000 in
theorem chunks1_seq (x : SnapV) (Bm : Nat) (w : World) (hT : Tab w) (hF : FitsS w x) (hm : SnapAt w Bm x) (hf : FewF x.f.f) (hd : x.d.length ≤ 1048576) :
    SeqZ Tryz.prog 104 #[] #[.pointer (some ⟨Bm, 0, none⟩)] (fun y : Sl10 × List Int => #[.slice y.1.p y.1.n y.1.c]) (snS x Bm) (fun y => inSl y.1) (OkC (chunks12 x.s)) (fun pre => pre.map Prod.snd = chunks12 x.s) w := by
  intro l J Jx W hK hJ hJx hY h0
  have hTW := hT.keepS12 hK (.inl rfl)
  have hFW := hF.keepS12 hK fun k hk => .inr (.inr hk)
  have hmW : SnapAt W Bm x := (hK.same Bm (.inr (.inl rfl))).trans hm
  have hsl : ∀ k, snS x Bm k → k < W.heap.size := fun k hk => by
    rcases hk with rfl | rfl | hk
    · exact hTW.1
    · exact box_lt hmW
    · exact hFW.inSn_lt hk
  have hbl := snapB_big (s := x.s) hf hd
  have hbB := snapB_isB x.s hF.b
  obtain ⟨hcl, hca⟩ := chunks_at x.s
  have hc0 : (chunks12 x.s)[0]? = some (frameB (headB12 x.s (snapB x.s))) := by
    unfold chunks12
    rw [List.getElem?_cons_zero]
  have hhl := head_len x.s (snapB x.s)
  obtain ⟨W1, hW1⟩ : ∃ W1, W.alloc (.cells #[.func (.yield l) #[] #[]] 142) = W1 := ⟨_, rfl⟩
  have hB1 : Below W.heap.size W W1 := by rw [← hW1]; exact (Below.refl _ W).alloc (Nat.le_refl _) _
  have hz1 : W1.heap.size = W.heap.size + 1 := by rw [← hW1]; simp
  have y1 : Boxed W1 W.heap.size 142 (.func (.yield l) #[] #[]) := by rw [← hW1]; exact Boxed.new _ _ _
  have hm1 : SnapAt W1 Bm x := box_below hmW hB1
  have hld1 := ldS_box W1 _ _ _ _ hm1 rfl
  have kb := bytesS_big W1 x (hFW.below hB1) hf hd
  have hlm := box_lt hm1
  refine (callsIn_wide (n := 9)).1 ?_
  refine callsIn_of_wp_marks Tryz.func104 rfl trivial ?_ rfl
  simp only [Tryz.ntmps104, List.size_toArray, List.length_cons, List.length_nil, Nat.reduceAdd, Nat.reduceSub, Array.replicate_succ, Array.replicate_zero, List.push_toArray, List.append_toArray, List.nil_append, List.cons_append]
  gi_wp2_with fail
  refine ⟨trivial, (callsIn_wide.2 kb).mono ?_⟩
  rintro _ W2 ⟨v2, rfl, ho2, hb2⟩
  have hz2 := hb2.size
  have hpos : 0 < (snapB x.s).length := snapB_pos x.s
  obtain ⟨g, cb, rfl, hg1, hg2, hcb⟩ : ∃ g cb, v2 = .slice (some ⟨g, 0, none⟩) (snapB x.s).length cb ∧ W1.heap.size ≤ g ∧ g < W2.heap.size ∧ (snapB x.s).length ≤ cb := by
    rcases ho2.2 with ⟨-, hn⟩ | ⟨g, cap, cur, rfl, hb1, hg, hnc, rest⟩
    · omega
    · exact ⟨g, cap, rfl, hb1, (Array.getElem?_eq_some_iff.1 hg).1, hnc⟩
  have hv2 := ho2.has
  have hB2 : Below W.heap.size W W2 := hB1.trans (hb2.mono (by omega))
  have hm2 : SnapAt W2 Bm x := box_below hmW (hB2.mono (Nat.le_refl _))
  have y2 : Boxed W2 W.heap.size 142 (.func (.yield l) #[] #[]) := (hb2.block _ (by omega)).trans y1
  have kh := headS_any x _ (snapB x.s) W2.drew (hTW.below (on_drew12 hB2) (Nat.le_refl _)) (hv2.below (on_drew12 (Below.refl W2.heap.size W2)) (Nat.le_refl _)) hbB (by omega)
  have hld2 := ldS_box W2.drew _ _ _ _ (show W2.drew.heap[Bm]? = _ from hm2) rfl
  have KF : Hid (∀ w3 v3, Below W2.heap.size W2 w3 → Has w3 v3 (headB12 x.s (snapB x.s)) → Calls Tryz.prog 106 #[v3] w3 fun e w' => ∃ v', e = .returned v' ∧ Owns w' w3.heap.size 5 v' (frameB (headB12 x.s (snapB x.s))) ∧ Below w3.heap.size w3 w') := fun w3 v3 hb3 hv3 => frame_any v3 _ w3 (hTW.below (hB2.trans (hb3.mono (by omega))) (Nat.le_refl _)) hv3 (by omega) (head_isB _ _)
  have KY : Hid (∀ w4 v4, Below W2.heap.size W2 w4 → Owns w4 W2.heap.size 5 v4 (frameB (headB12 x.s (snapB x.s))) → YieldAt Fence.wide 0 Tryz.prog l #[v4] w4 fun e Y => ∃ b : Bool, e = .returned (.bool b) ∧ Hid (∃ (T : Nat → Prop) (y0 : Sl10 × List Int), (∀ k, T k → W.heap.size ≤ k ∧ k < Y.heap.size) ∧ (∀ k, W.heap.size ≤ k → k < W2.heap.size → T k) ∧ y0.2 = frameB (headB12 x.s (snapB x.s)) ∧ KeepS (snS x Bm) W Y ∧ W2.heap.size ≤ Y.heap.size ∧ (∀ k, W.heap.size ≤ k → k < W2.heap.size → Y.heap[k]? = W2.heap[k]?) ∧ if b = true then J T [y0] Y else Jx T [y0] Y)) := fun w4 v4 hb4 ho4 => by
    obtain ⟨s4, rfl, hs4⟩ := ho4.slice12
    have hz4 := hb4.size
    have hB4 : Below W.heap.size W w4 := hB2.trans (hb4.mono (by omega))
    obtain ⟨fn, tmps, assign, body, hy, hR⟩ := hY (fun k => W.heap.size ≤ k ∧ k < w4.heap.size ∧ ¬ inSl s4 k) [] (s4, frameB (headB12 x.s (snapB x.s))) w4 (by omega) (fun k hk => ⟨hk.1, hk.2.1⟩)
      ⟨ho4.has, by rw [List.nil_append, List.map_singleton]; exact ⟨_, (List.singleton_append).trans rfl⟩, frameB_isB (head_isB _ _), by rw [frameB_length]; omega, fun k hk => ⟨fun h => h.2.2 hk, by have := (hs4 k hk).1; omega⟩⟩
      (hJ _ _ _ _ _ h0 (Turn.of_below hB4 (Nat.le_refl _)) fun k hk => .inr (hk.elim And.left fun h => by have := (hs4 k h).1; omega))
    refine ⟨fn, tmps, assign, body, hy, hR.mono ?_⟩
    rintro e Y ⟨b, rfl, k1, k2, k3⟩
    have hzY := k1.size
    refine ⟨b, rfl, fun k => W.heap.size ≤ k ∧ k < w4.heap.size ∧ ¬ inSl s4 k, (s4, frameB (headB12 x.s (snapB x.s))), fun k hk => ⟨hk.1, by omega⟩, fun k h1 h2 => ⟨h1, by omega, fun h => by have := (hs4 k h).1; omega⟩, rfl, (KeepS.of_below hB4 hsl).trans k1, by omega, fun k h1 h2 => ?_, k3⟩
    exact (k2.same k ⟨h1, by omega, fun h => by have := (hs4 k h).1; omega⟩).trans (hb4.block k (by omega))
  have hmix : Tryz.prog.follows Departure.mixedOrders = true := by kernel_rfl
  have c2 : W2.drew.cell? ⟨W.heap.size, 0, none⟩ = some (.func (.yield l) #[] #[]) := y2.cell
  have l2 : W.heap.size < W2.drew.heap.size := y2.lt
  have lm2 : Bm < W2.drew.heap.size := box_lt hm2
  obtain ⟨q0, q1, q2, q3, q4⟩ := SnapAt.cells hm2
  have HY2 : Hid (Boxed W2 W.heap.size 142 (.func (.yield l) #[] #[])) := y2
  have HV2 : Hid (Has W2 (.slice (some ⟨g, 0, none⟩) (snapB x.s).length cb) (snapB x.s)) := hv2
  have HJ : Hid _ := hJ
  have HJx : Hid _ := hJx
  have HYY : Hid _ := hY
  have HTW : Hid (Tab W) := hTW
  have HSL : Hid _ := hsl
  have HCA : Hid _ := hca
  have HC0 : Hid _ := hc0
  have HBB : Hid (IsB (snapB x.s)) := hbB
  clear kb ho2 hv2 y1 y2 hm1 hm2 hld1 hT hF hm hFW hmW hTW hsl hJ hJx hY h0 hca hc0 hbB hB1 hK hlm
  generalize hN : (snapB x.s).length = n at *
  have HN : Hid ((snapB x.s).length = n) := hN
  clear hN
  gi_wp2_with fail
  refine wpIn_mono (Q := Exit.then (fun a Y => HeadEnd l Bm W W2 g n cb x J Jx a Y) (fun _ _ _ => False)) ?_ ?_
  · clear HV2 HJ HJx HYY HTW HSL HCA HC0 HBB HN hbl hcl hhl hpos hcb hg1 hg2 hB2 hz2 hd hf hz1
    gi_region_with_o (first
      | (refine ⟨trivial, ?_⟩; gi_at_call 107; refine (callsIn_wide.2 kh).mono ?_; rintro _ w3 ⟨v3, rfl, ho3, hb3⟩; have hb23 : Below W2.heap.size W2 w3 := (on_drew12 (Below.refl W2.heap.size W2)).trans hb3; have kf := KF.out w3 v3 hb23 ho3.has; have bx3 : Boxed w3 W.heap.size 142 (.func (.yield l) #[] #[]) := (hb23.block _ l2).trans HY2.out; have cx3 := bx3.cell; have lx3 := bx3.lt)
      | (refine ⟨trivial, ?_⟩; gi_at_call 106; refine (callsIn_wide.2 kf).mono ?_; rintro _ w4 ⟨v4, rfl, ho4, hb4⟩; have hb24 : Below W2.heap.size W2 w4 := hb23.trans (hb4.mono hb23.size); have bx4 : Boxed w4 W.heap.size 142 (.func (.yield l) #[] #[]) := (hb24.block _ l2).trans HY2.out; have cx4 := bx4.cell; have lx4 := bx4.lt; obtain ⟨fn, tmps, assign, body, hy, hR⟩ := YieldAt.wide (m' := 8) (KY.out w4 v4 hb24 (ho4.mono hb23.size)))
      | (refine hR.mono ?_; rintro _ Y ⟨bb, rfl, hres⟩))
    all_goals exact ⟨⟨bb, _, _, rfl, hres⟩⟩
  · rintro e a Y hpost
    cases e <;> first | exact hpost.elim | skip
    obtain ⟨⟨bb, v3, v4, rfl, hres⟩⟩ := hpost
    obtain ⟨T1, y0, t1, t2, hy0, kW, hzY, kb2, hj⟩ := hres.out
    have HCL : Hid ((chunks12 x.s).length = 1 + npiece12 (snapB x.s)) := hcl
    clear kh hld2 KF KY c2 q0 q1 q2 q3 q4 hres hcl lm2
    cases bb with
    | false =>
      rw [if_neg (by decide)] at hj
      have HJ1 : Hid (Jx T1 [y0] Y) := hj
      have hzW := kW.size
      clear hj
      gi_wp2
      exact ⟨_, results_none rfl _ _ _, ⟨_, rfl⟩, T1, [y0], hzW, t1, .inr HJ1.out⟩
    | true =>
      rw [if_pos rfl] at hj
      have HJ1 : Hid (J T1 [y0] Y) := hj
      have kc := chunkB_any (some ⟨g, 0, none⟩) n cb Y
      clear hj
      gi_wp2_with fail
      refine ⟨trivial, (callsIn_wide.2 kc).mono ?_⟩
      rintro e Y2 ⟨rfl, hY2⟩
      have hbY : Below Y.heap.size Y Y2 := by rw [hY2]; exact ((Below.refl _ Y).alloc (Nat.le_refl _) _).alloc (by simp) _
      have hzY2 : Y2.heap.size = Y.heap.size + 2 := by rw [hY2]; simp
      have bs : Boxed Y2 Y.heap.size 25 (.slice (some ⟨g, 0, none⟩) n cb) := by rw [hY2]; exact (Boxed.new Y _ _).alloc _
      have bn : Boxed Y2 (Y.heap.size + 1) 3 (.int .i64 4096) := by
        have := Boxed.new (Y.alloc (.cells #[.slice (some ⟨g, 0, none⟩) n cb] 25)) 3 (.int .i64 4096)
        rw [World.size_alloc] at this
        rw [hY2]; exact this
      clear hY2 kc
      have hzW := kW.size
      have hseq := chunk1_seq g 0 n cb Y.heap.size (Y.heap.size + 1) hpos (by omega) hcb Y2 bs bn
      have HT2 : Hid (∀ k, (T1 k ∨ k = Y.heap.size ∨ k = Y.heap.size + 1) → W.heap.size ≤ k ∧ k < Y2.heap.size) := fun k hk => by
        rcases hk with hk | hk
        · have := t1 k hk; omega
        · omega
      have HJ2 : Hid (J (fun k => T1 k ∨ k = Y.heap.size ∨ k = Y.heap.size + 1) [y0] Y2) := HJ.out _ _ _ _ _ HJ1.out (Turn.of_below hbY (Nat.le_refl _)) fun k hk => by
        rcases hk with hk | hk
        · exact .inl hk
        · exact .inr (by omega)
      have HKW : Hid (KeepS (snS x Bm) W Y2) := kW.trans (KeepS.of_below hbY fun k hk => by have := HSL.out k hk; omega)
      have HYB : Hid (Boxed Y2 W.heap.size 142 (.func (.yield l) #[] #[])) := (hbY.block _ (by omega)).trans ((kb2 _ (Nat.le_refl _) (by omega)).trans HY2.out)
      have HVB : Hid (Has Y2 (.slice (some ⟨g, 0, none⟩) n cb) (snapB x.s)) := by
        obtain ⟨p', c', hv, h1, h2, h3⟩ := HV2.out
        refine ⟨p', c', hv, h1, h2, fun h0 => ?_⟩
        obtain ⟨b, o, hp, hb, hc⟩ := h3 h0
        simp only [Value.slice.injEq] at hv
        rw [hp] at hv
        obtain ⟨hv, -⟩ := hv
        cases hv
        have e1 : Y2.heap[g]? = W2.heap[g]? := (hbY.block g (by omega)).trans (kb2 g (by omega) hg2)
        exact ⟨g, 0, hp, by omega, fun i hi => (World.cell?_of_block (a := ⟨g, 0 + i, none⟩) e1).trans (hc i hi)⟩
      have HTg : Hid (T1 W.heap.size ∧ T1 g) := ⟨t2 _ (Nat.le_refl _) (by omega), t2 g (by omega) hg2⟩
      have HY0 : Hid (y0.2 = frameB (headB12 x.s (snapB x.s))) := hy0
      clear HJ1 t1 t2 hbY bs bn kW kb2 hy0 HY2 HV2
      generalize hT2 : (fun k => T1 k ∨ k = Y.heap.size ∨ k = Y.heap.size + 1) = T2 at HJ2
      have HIN : Hid (∀ k, T2 k → W.heap.size ≤ k ∧ k < Y2.heap.size) := fun k hk => HT2.out k (by rw [← hT2] at hk; exact hk)
      have HMem : Hid (T2 W.heap.size ∧ T2 g ∧ T2 Y.heap.size ∧ T2 (Y.heap.size + 1)) := by
        rw [← hT2]; exact ⟨.inl HTg.out.1, .inl HTg.out.2, .inr (.inl rfl), .inr (.inr rfl)⟩
      clear hT2 HT2 HTg
      have HSeq : Hid (SeqZ Tryz.prog 147 #[] #[.pointer (some ⟨Y.heap.size, 0, none⟩), .pointer (some ⟨Y.heap.size + 1, 0, none⟩)] (fun j : Nat => #[pieceV g 0 n j]) (ckS Y.heap.size (Y.heap.size + 1)) (fun _ _ => False) (fun _ _ pre j _ => j = pre.length ∧ 4096 * j < n) (fun pre => n ≤ 4096 * pre.length) Y2) := hseq
      clear hseq
      gi_wp2
      refine range_seqZ (m := 7) (gf := 147) (fb := #[]) (lb := #[.pointer (some ⟨Y.heap.size, 0, none⟩), .pointer (some ⟨Y.heap.size + 1, 0, none⟩)]) rfl (enters_of Tryz.func147 (by kernel_rfl) rfl) HSeq.out (fun k hk => by rcases hk with rfl | rfl <;> omega) (fun _ => rfl)
        (fun T pre X => Hid (∃ ys, J (fun k => T k ∨ T2 k) ([y0] ++ ys) X ∧ ([y0] ++ ys).map Prod.snd = (chunks12 x.s).take (1 + pre.length)) ∧ pre.length ≤ npiece12 (snapB x.s) ∧ Hid (KeepS (snS x Bm) W X) ∧ Hid (KeepS T2 Y2 X) ∧ Hid (∀ k, T k → Y2.heap.size ≤ k))
        (fun T c pre X => c = .ret ∧ Hid (∃ ys, Jx (fun k => T k ∨ T2 k) ys X) ∧ Y2.heap.size ≤ X.heap.size ∧ Hid (∀ k, T k → Y2.heap.size ≤ k)) ?hI ?hIx ?h0 (fun _ _ _ _ _ _ h _ => h) ?hab ?hdone ?hstop
      case hI =>
        rintro T T' pre X X' ⟨i1, i2, i3, i4, i5⟩ ht hT'
        obtain ⟨ys, j1, j2⟩ := i1.out
        have hzx := i4.out.size
        refine ⟨⟨ys, HJ.out _ _ _ _ _ j1 (ht.mono fun k hk => .inl (.inl hk)) (fun k hk => ?_), j2⟩, i2, i3.out.trans ⟨ht.size, fun k hk => ht.block k ?_ ?_⟩, i4.out.trans ⟨ht.size, fun k hk => ht.block k ?_ ?_⟩, fun k hk => ?_⟩
        · rcases hk with hk | hk
          · exact (hT' k hk).imp .inl id
          · exact .inl (.inr hk)
        · have := HSL.out k hk; omega
        · intro h; have := HSL.out k hk; have := i5.out k h; omega
        · have := (HIN.out k hk).2; omega
        · intro h; have := (HIN.out k hk).2; have := i5.out k h; omega
        · rcases hT' k hk with h | h
          · exact i5.out k h
          · omega
      case hIx =>
        rintro T T' c pre X X' ⟨i0, i1, i2, i5⟩ ht hT'
        obtain ⟨ys, j1⟩ := i1.out
        refine ⟨i0, ⟨ys, HJx.out _ _ _ _ _ j1 (ht.mono fun k hk => .inl (.inl hk)) (fun k hk => ?_)⟩, Nat.le_trans i2 ht.size, fun k hk => ?_⟩
        · rcases hk with hk | hk
          · exact (hT' k hk).imp .inl id
          · exact .inl (.inr hk)
        · rcases hT' k hk with h | h
          · exact i5.out k h
          · omega
      case h0 =>
        refine ⟨⟨[], HJ.out _ _ _ _ _ HJ2.out (Turn.refl _ _) (fun k hk => ?_), ?_⟩, Nat.zero_le _, HKW, KeepS.refl _ _, fun _ h => h.elim⟩
        · rcases hk with hk | hk
          · exact hk.elim
          · exact .inl hk
        · rw [List.append_nil, List.map_singleton, HY0.out, List.length_nil, Nat.add_zero, List.take_add_one, HC0.out]
          rfl
      case hdone =>
        rintro T pre X hX hTX hTs hF ⟨i1, i2, i3, i4, i5⟩ hD
        obtain ⟨ys, j1, j2⟩ := i1.out
        have hpl : pre.length = npiece12 (snapB x.s) := by
          rcases Nat.lt_or_ge pre.length (npiece12 (snapB x.s)) with h | h
          · have := npiece_lt.2 h
            rw [HN.out] at this
            omega
          · omega
        have hX' : Turn (fun k => T k ∨ T2 k) X (X.putObj Y2.heap.size (.deferred none)) := Turn.putObj _ (.inl hTs)
        have HE : Hid (J (fun k => T k ∨ T2 k) ([y0] ++ ys) (X.putObj Y2.heap.size (.deferred none))) := HJ.out _ _ _ _ _ j1 hX' fun _ h => .inl h
        have HM : Hid (([y0] ++ ys).map Prod.snd = chunks12 x.s) := by
          rw [Hid, j2, hpl, List.take_of_length_le (by rw [HCL.out]; omega)]
        clear i1 i3 i4 j1 j2 hX' HSeq
        gi_wp2
        refine ⟨by simp, .inl ⟨_, _, rfl, run_takeDeferred hD, ?_⟩⟩
        refine ⟨_, results_none rfl _ _ _, ⟨_, rfl⟩, _, _, ?_, ?_, .inl ⟨HM.out, HE.out⟩⟩
        · simp; omega
        · intro k hk
          have hsz : (X.putObj Y2.heap.size (.deferred none)).heap.size = X.heap.size := by simp
          rw [hsz]
          rcases hk with hk | hk
          · have := hTX k hk; omega
          · have := HIN.out k hk; omega
      case hstop =>
        rintro T c pre X hX hTX hTs ⟨rfl, i1, i2, i5⟩ hD
        obtain ⟨ys, j1⟩ := i1.out
        have hX' : Turn (fun k => T k ∨ T2 k) X (X.putObj Y2.heap.size (.deferred none)) := Turn.putObj _ (.inl hTs)
        have HE : Hid (Jx (fun k => T k ∨ T2 k) ys (X.putObj Y2.heap.size (.deferred none))) := HJx.out _ _ _ _ _ j1 hX' fun _ h => .inl h
        clear i1 j1 hX' HSeq
        gi_wp2
        refine ⟨by simp, .inl ⟨_, _, rfl, run_takeDeferred hD, ?_⟩⟩
        refine ⟨_, results_none rfl _ _ _, ⟨_, rfl⟩, _, _, ?_, ?_, .inr HE.out⟩
        · simp; omega
        · intro k hk
          have hsz : (X.putObj Y2.heap.size (.deferred none)).heap.size = X.heap.size := by simp
          rw [hsz]
          rcases hk with hk | hk
          · have := hTX k hk; omega
          · have := HIN.out k hk; omega
      case hab =>
        refine ⟨?_, ?_, ?_⟩
        rotate_left
        · intro l' j X K hK
          have hsem := @Oper.semAt_some l'
          gi_wp2
          exact hK
        · rintro l' T pre j X hX hTX ⟨hj1, hj2⟩ hI0
          rw [show (fun k => T k ∨ False) = T by funext k; simp] at hI0
          obtain ⟨i1, i2, i3, i4, i5⟩ := hI0
          obtain ⟨ys, jJ, jP⟩ := i1.out
          have hsem := @Oper.semAt_some l'
          have hzX := i4.out.size
          have bY : Boxed X W.heap.size 142 (.func (.yield l) #[] #[]) := i4.out.box HYB.out HMem.out.1
          have cY : X.cell? ⟨W.heap.size, 0, none⟩ = some (.func (.yield l) #[] #[]) := bY.cell
          have cYd : X.drew.cell? ⟨W.heap.size, 0, none⟩ = some (.func (.yield l) #[] #[]) := bY.cell
          have lY : W.heap.size < X.heap.size := bY.lt
          have hvX : Has X (.slice (some ⟨g, 0, none⟩) n cb) (snapB x.s) := HVB.out.keepS12 (s := ⟨some ⟨g, 0, none⟩, n, cb⟩) i4.out fun k hk => by
            obtain ⟨-, a, ha, rfl⟩ := hk
            cases ha
            exact HMem.out.2.1
          have hpc := hvX.piece hj2
          have hpl := piece_len (snapB x.s) j
          have hjN : j < npiece12 (snapB x.s) := npiece_lt.1 (by rw [HN.out]; exact hj2)
          have kf := frame_any (pieceV g 0 n j) (piece12 (snapB x.s) j) X.drew ((HTW.out.keepS12 i3.out (.inl rfl)).below (on_drew12 (Below.refl X.heap.size X)) (Nat.le_refl _)) (hpc.below (on_drew12 (Below.refl X.heap.size X)) (Nat.le_refl _)) (by omega) (piece_isB HBB.out j)
          have hca := HCA.out j hjN
          have HTX : Hid (∀ k, (recT Y2.heap.size T k ∨ T2 k) → W.heap.size ≤ k ∧ k < X.heap.size) := fun k hk => by
            rcases hk with hk | hk
            · rcases hk with hk | hk
              · have := hTX k hk; omega
              · omega
            · have := HIN.out k hk; omega
          have KY : Hid (∀ w4 v4, Below X.heap.size X w4 → Owns w4 X.heap.size 5 v4 (frameB (piece12 (snapB x.s) j)) → YieldAt Fence.wide 0 Tryz.prog l #[v4] w4 fun e Z => ∃ b : Bool, e = .returned (.bool b) ∧ Hid (∃ y : Sl10 × List Int, ([y0] ++ (ys ++ [y])).map Prod.snd = (chunks12 x.s).take (1 + (pre ++ [j]).length) ∧ KeepS (snS x Bm) X Z ∧ KeepS (fun k => recT Y2.heap.size T k ∨ T2 k) X Z ∧ if b = true then J (fun k => recT Y2.heap.size T k ∨ T2 k) ([y0] ++ (ys ++ [y])) Z else Jx (fun k => recT Y2.heap.size T k ∨ T2 k) ([y0] ++ (ys ++ [y])) Z)) := fun w4 v4 hb4 ho4 => by
            obtain ⟨s4, rfl, hs4⟩ := ho4.slice12
            have hz4 := hb4.size
            have hT3 : ∀ k, (recT Y2.heap.size T k ∨ T2 k) ∨ (X.heap.size ≤ k ∧ k < w4.heap.size ∧ ¬ inSl s4 k) → (recT Y2.heap.size T k ∨ T2 k) ∨ X.heap.size ≤ k := fun k hk => hk.imp id And.left
            have hnew : ([y0] ++ (ys ++ [(s4, frameB (piece12 (snapB x.s) j))])).map Prod.snd = (chunks12 x.s).take (1 + (pre ++ [j]).length) := by
              rw [← List.append_assoc, List.map_append, jP, List.map_singleton, List.length_append, List.length_singleton, ← Nat.add_assoc, List.take_add_one, ← hj1, hca]
              rfl
            have hR0 := HYY.out (fun k => (recT Y2.heap.size T k ∨ T2 k) ∨ (X.heap.size ≤ k ∧ k < w4.heap.size ∧ ¬ inSl s4 k)) ([y0] ++ ys) (s4, frameB (piece12 (snapB x.s) j)) w4 (by omega) (fun k hk => by
                rcases hk with hk | hk
                · have := HTX.out k hk; omega
                · omega)
              ⟨ho4.has, by rw [List.append_assoc, hnew]; exact List.take_prefix _ _, frameB_isB (piece_isB HBB.out j), by rw [frameB_length]; omega, fun k hk => ⟨fun h => by
                  rcases h with h | h
                  · have := (HTX.out k h).2; have := (hs4 k hk).1; omega
                  · exact h.2.2 hk, by have := (hs4 k hk).1; omega⟩⟩
              (HJ.out _ _ _ _ _ jJ (Turn.of_below hb4 (Nat.le_refl _)) fun k hk => hk.elim (hT3 k) fun h => .inr (hs4 k h).1)
            obtain ⟨fn, tmps, assign, body, hy, hR⟩ := hR0
            refine ⟨fn, tmps, assign, body, hy, hR.mono ?_⟩
            rintro e Z ⟨b, rfl, k1, k2, k3⟩
            refine ⟨b, rfl, (s4, frameB (piece12 (snapB x.s) j)), hnew, (KeepS.of_below hb4 fun k hk => by have := HSL.out k hk; omega).trans k1, (KeepS.of_below hb4 fun k hk => (HTX.out k hk).2).trans ⟨k2.size, fun k hk => k2.same k (.inl hk)⟩, ?_⟩
            rw [List.append_assoc] at k3
            cases b with
            | true => exact HJ.out _ _ _ _ _ k3 (Turn.refl _ _) fun k hk => .inl (.inl hk)
            | false => exact HJx.out _ _ _ _ _ k3 (Turn.refl _ _) fun k hk => .inl (.inl hk)
          obtain ⟨R, HR⟩ : ∃ R : Bool → World → Prop, Hid (∀ b Z, R b Z ↔ ∃ y : Sl10 × List Int, ([y0] ++ (ys ++ [y])).map Prod.snd = (chunks12 x.s).take (1 + (pre ++ [j]).length) ∧ KeepS (snS x Bm) X Z ∧ KeepS (fun k => recT Y2.heap.size T k ∨ T2 k) X Z ∧ if b = true then J (fun k => recT Y2.heap.size T k ∨ T2 k) ([y0] ++ (ys ++ [y])) Z else Jx (fun k => recT Y2.heap.size T k ∨ T2 k) ([y0] ++ (ys ++ [y])) Z) := ⟨_, fun _ _ => Iff.rfl⟩
          have KY2 : Hid (∀ w4 v4, Below X.heap.size X w4 → Owns w4 X.heap.size 5 v4 (frameB (piece12 (snapB x.s) j)) → YieldAt Fence.wide 0 Tryz.prog l #[v4] w4 fun e Z => ∃ b : Bool, e = .returned (.bool b) ∧ R b Z) := fun w4 v4 h1 h2 => by
            obtain ⟨fn, tmps, assign, body, hy, hR⟩ := KY.out w4 v4 h1 h2
            refine ⟨fn, tmps, assign, body, hy, hR.mono ?_⟩
            rintro e Z ⟨b, rfl, hb⟩
            exact ⟨b, rfl, (HR.out b Z).2 hb.out⟩
          have HBY : Hid (Boxed X W.heap.size 142 (.func (.yield l) #[] #[])) := bY
          have hmix : Tryz.prog.follows Departure.mixedOrders = true := by kernel_rfl
          have HBX : Hid (∀ Z, KeepS (fun k => recT Y2.heap.size T k ∨ T2 k) X Z → KeepS (ckS Y.heap.size (Y.heap.size + 1)) X Z ∧ KeepS (recT Y2.heap.size T) X Z ∧ KeepS T2 Y2 Z) := fun Z hk => ⟨⟨hk.size, fun k h => hk.same k (by rcases h with rfl | rfl; exact .inr HMem.out.2.2.1; exact .inr HMem.out.2.2.2)⟩, ⟨hk.size, fun k h => hk.same k (.inl h)⟩, i4.out.trans ⟨hk.size, fun k h => hk.same k (.inr h)⟩⟩
          clear KY jJ jP i1 hvX hpc bY HTX hca HJ2 HYB HVB HSeq HY0 HC0 HCA
          gi_wp2_with fail
          refine wpIn_mono (Q := fun e a Z => ∃ (bb : Bool) (v5 : Value), e = .normal ∧ a = { tmps := #[.func (.yield l) #[] #[], .pointer (some ⟨Bm, 0, none⟩), .pointer (some ⟨W.heap.size, 0, none⟩), .slice (some ⟨g, 0, none⟩) n cb, pieceV g 0 n j, .agg x.arr, .slice (some ⟨g, 0, none⟩) n cb, .func (.yield l) #[] #[], .agg x.arr, .slice (some ⟨g, 0, none⟩) n cb, v3, v4, .bool true, .bool !true, .slice (some ⟨g, 0, none⟩) n cb, .func (.func 147) #[] #[.pointer (some ⟨Y.heap.size, 0, none⟩), .pointer (some ⟨Y.heap.size + 1, 0, none⟩)], pieceV g 0 n j, .func (.yield l) #[] #[], pieceV g 0 n j, v5, .bool bb, .bool !bb], defers := [] } ∧ R bb Z) ?_ ?_
          · clear HR HBX HMem HIN HKW i2 i3 i4 i5 hX hTX hzX hzY2 hzW hzY HJ HJx HYY HTW HSL HBB HN HCL hbl hhl hpos hcb hg1 hg2 hB2 hz2 hd hf hz1 hpl hjN hj1 hj2
            generalize pieceV g 0 n j = pv at *
            gi_region_with_o (first
              | (refine ⟨trivial, ?_⟩; gi_at_call 106; refine (CallsIn.inRound l' (callsIn_wide.2 kf)).mono ?_; rintro _ w4 ⟨v5, rfl, ho4, hb4⟩; have hb24 : Below X.heap.size X w4 := (on_drew12 (Below.refl X.heap.size X)).trans hb4; have bx4 : Boxed w4 W.heap.size 142 (.func (.yield l) #[] #[]) := (hb24.block _ lY).trans HBY.out; have cx4 := bx4.cell; have lx4 := bx4.lt; obtain ⟨fn, tmps, assign, body, hy, hR⟩ := YieldAt.wide (m' := 6) (KY2.out w4 v5 hb24 ho4))
              | (refine (RoundIn.inRound12 hR).mono ?_; rintro _ Z ⟨bb, rfl, hres⟩))
            all_goals exact ⟨bb, _, rfl, rfl, hres⟩
          · rintro e a Z ⟨bb, v5, rfl, rfl, hres⟩
            obtain ⟨y, r1, r2, r3, r4⟩ := (HR.out bb Z).1 hres
            obtain ⟨b1, b2, b3⟩ := HBX.out Z r3
            have HP : Hid (KeepS (ckS Y.heap.size (Y.heap.size + 1)) X Z ∧ KeepS (recT Y2.heap.size T) X Z ∧ KeepS (snS x Bm) W Z ∧ KeepS T2 Y2 Z) := ⟨b1, b2, i3.out.trans r2, b3⟩
            have HR1 : Hid (([y0] ++ (ys ++ [y])).map Prod.snd = (chunks12 x.s).take (1 + (pre ++ [j]).length)) := r1
            have hzZ := r3.size
            clear r1 r2 r3 b1 b2 b3 kf KY2 HBX HR hres
            cases bb with
            | true =>
              rw [if_pos rfl] at r4
              have HR4 : Hid _ := r4
              clear r4
              gi_wp2
              exact ⟨HP.out.1, HP.out.2.1, ⟨_, HR4.out, HR1.out⟩, by rw [List.length_append, List.length_singleton]; omega, HP.out.2.2.1, HP.out.2.2.2, i5⟩
            | false =>
              rw [if_neg (by decide)] at r4
              have HR4 : Hid _ := r4
              clear r4
              gi_wp2
              exact ⟨HP.out.1, HP.out.2.1, rfl, ⟨_, HR4.out⟩, by omega, i5⟩
end Go.Proofs.YthlelcmifolnfaaGreatDoor
