import Derived.Test.YtephoegcpjdglaaLjGTo
import Derived.Test.YtephoegcpjdglaaEp6To
import Derived.Test.YtephoegcpjdglaaLiCTo
import Derived.Deep.RegionHeld3
namespace Go.Proofs.Ytephoegcpjdglaa
open Go.RowKit Go.Shelf
attribute [local go_sem ↓] ldE_exec stE_exec ldE_execI stE_execI ldE_run ldE_box ldC_exec stC_exec ldC_execI stC_execI ldC_run oc_int oc_bool oc_string oc_slice oc_pointer
section
variable {w0 w w' : World} {r : Nat} {G : Nat → Prop} {s : Sl10} {es : List EntV} {L L' : LG}
theorem row_at13 {B : Nat} {ys : List EntV} (h : w.ownsRow B 51 13 (.slice s.p s.n s.c) ys.length (entsV ys)) :
    ys.length = s.n ∧ s.n ≤ s.c ∧ (s.p = none → s.c = 0) ∧ (0 < s.c → ∃ g o a, s.p = some ⟨g, o, none⟩ ∧ (B ≤ g ∧ g < w.heap.size) ∧ w.heap[g]? = some (.cells a 51 (0, 0)) ∧ o + s.c * 13 ≤ a.size ∧ ∀ i, i < s.n → ∀ j, j < 13 → a[o + i * 13 + j]? = (ys.getD i noEV).arr[j]?) := by
  have hn := row_n13 h
  rcases h.2 with ⟨hv, h0⟩ | ⟨g, cap, cur, hv, hB, hg, hnc, hcm, hcs, htake⟩
  · simp only [Value.slice.injEq] at hv
    obtain ⟨h1, h2, h3⟩ := hv
    exact ⟨hn.symm, by omega, fun _ => h3, fun h4 => by omega⟩
  · simp only [Value.slice.injEq] at hv
    obtain ⟨h1, h2, h3⟩ := hv
    subst h3
    refine ⟨hn.symm, by omega, (fun h4 => by rw [h1] at h4; cases h4), fun _ => ⟨g, 0, cur, h1, ⟨hB, box_lt hg⟩, hg, by omega, fun i hi j hj => ?_⟩⟩
    have hi2 : i < ys.length := by omega
    rw [← entsV_at hi2 hj, ← htake, List.getElem?_take_of_lt (by omega), Array.getElem?_toList, Nat.zero_add]
theorem RfG.of_row {B : Nat} {ys : List EntV} (hb : Below w0.heap.size w0 w) (hB : w0.heap.size ≤ B) (ho : w.heap[r]? = some (.cells (rfArr L s) 38 (0, 0))) (hr : B ≤ r) (h : w.ownsRow B 51 13 (.slice s.p s.n s.c) ys.length (entsV ys)) (ha : ∀ y ∈ ys, FitsE w0 y) (hm : ys.map EntV.e = L.l) (hI : L.Inv) (ht : L.end ≤ 1125899906842624) (hs : s.n ≤ 837723144948) :
    RfG w0 w r (fun k => B ≤ k ∧ k < w.heap.size) s ys L := by
  obtain ⟨h1, h2, h3, h4⟩ := row_at13 h
  refine ⟨ho, h1, h2, h3, h4, ha, hb, fun k hk => ?_, hm, hI, ht, hs⟩
  rcases hk with rfl | hk
  · exact ⟨by omega, box_lt ho⟩
  · exact ⟨by omega, hk.2⟩
theorem Gave13.has {B : Nat} {s' : Sl10} {ys : List EntV} {R : List Ent10} (h : Gave13 w B es s' ys R) (ha : ∀ e ∈ es, FitsE w0 e) (hb : Below w0.heap.size w0 w) : HasE w s' ys := by
  obtain ⟨h1, h2, h3, h4⟩ := row_at13 h.row
  refine ⟨h1, h2, h3, fun h0 => ?_, fun e he => (ha e (h.mem e he)).below hb⟩
  obtain ⟨g, o, a, e1, e2, e3, e4, e5⟩ := h4 (by omega)
  exact ⟨g, o, e1, e2.2, fun i hi j hj => (box_cell e3 _).trans (e5 i hi j hj)⟩

structure RNew13 (w0 w : World) (o : Option LG) (v : Value) (w' : World) : Prop where
  bel : Below w.heap.size w w'
  no : o = none → v = .pointer none
  yes : ∀ L, o = some L → ∃ r, v = .pointer (some ⟨r, 0, none⟩) ∧ w.heap.size ≤ r ∧ ∃ s es, RfG w0 w' r (fun k => w.heap.size ≤ k ∧ k < w'.heap.size) s es L

set_option maxRecDepth 100000 in
set_option maxHeartbeats 1000000 in
theorem rnew13_any (hb0 : Below w0.heap.size w0 w) (ix t : Int) (hE : HasE w s es) (hF : ∀ e ∈ es, FitsE w0 e) (hl : s.n ≤ 837723144948) (hx : inI ix) :
    Calls Try.prog 8 #[.int .i64 ix, .int .i64 t, .slice s.p s.n s.c] w fun e w' => ∃ v, e = .returned v ∧ RNew13 w0 w (new13 ix t (es.map EntV.e)) v w' := by
  unfold inI at hx
  by_cases h1 : ix < 0
  · have HF : Hid (new13 ix t (es.map EntV.e) = none) := if_neg (by omega)
    rw [HF.out]
    go_enter Try.func8, Try.ntmps8
    go_wp2
    go_ret
    exact ⟨_, rfl, Below.refl _ _, fun _ => rfl, fun _ h => by cases h⟩
  by_cases h2 : 1099511627776 < ix
  · have HF : Hid (new13 ix t (es.map EntV.e) = none) := if_neg (by omega)
    rw [HF.out]
    go_enter Try.func8, Try.ntmps8
    go_wp2
    go_ret
    exact ⟨_, rfl, Below.refl _ _, fun _ => rfl, fun _ h => by cases h⟩
  by_cases h3 : t < 0
  · have HF : Hid (new13 ix t (es.map EntV.e) = none) := if_neg (by omega)
    rw [HF.out]
    go_enter Try.func8, Try.ntmps8
    go_wp2
    go_ret
    exact ⟨_, rfl, Below.refl _ _, fun _ => rfl, fun _ h => by cases h⟩
  have kf := rchain13_any w ix t s es hE (by omega) (by omega) hx.2
  have hnn := hE.n
  have HE : Hid (HasE w s es) := hE
  have hcc := hE.c
  cases hch : chain13 ix t (es.map EntV.e) with
  | false =>
    have HF : Hid (new13 ix t (es.map EntV.e) = none) := if_neg (by rw [hch]; intro h; exact Bool.noConfusion h.2.2.2)
    rw [HF.out]
    rw [hch] at kf
    go_enter Try.func8, Try.ntmps8
    go_wp2_with fail
    refine kf.mono ?_
    rintro _ w1 ⟨rfl, hb1⟩
    go_wp2
    go_ret
    exact ⟨_, rfl, hb1, fun _ => rfl, fun _ h => by cases h⟩
  | true =>
    have HF : Hid (new13 ix t (es.map EntV.e) = some ⟨ix, t, es.map EntV.e, ix, ix, ix + (es.map EntV.e).length⟩) := if_pos ⟨by omega, by omega, by omega, hch⟩
    have HI : Hid _ := (new_inv13 HF.out).1
    rw [HF.out]
    rw [hch] at kf
    have HFW : Hid (∀ e ∈ es, FitsE w0 e) := hF
    have HB0 : Hid (Below w0.heap.size w0 w) := hb0
    have HNN : Hid (es.length = s.n) := hnn
    clear hch hE hF hb0 hnn
    go_enter Try.func8, Try.ntmps8
    go_wp2_with fail
    refine kf.mono ?_
    rintro _ w1 ⟨rfl, hb1⟩
    have hz1 := hb1.size
    have hba : Below w1.heap.size w1 (w1.alloc (.cells #[] 51)) := (Below.refl _ _).alloc (Nat.le_refl _) _
    have HE1 : Hid (HasE (w1.alloc (.cells #[] 51)) s es) := (HE.out.below hb1).below hba
    have hx := hasR_of_hasE HE1.out
    have hrow : (w1.alloc (.cells #[] 51)).ownsRow w1.heap.size 51 13 (.slice (some ⟨w1.heap.size, 0, none⟩) 0 0) 0 [] := ⟨rfl, .inr ⟨w1.heap.size, 0, #[], rfl, Nat.le_refl _, heap_alloc_new w1 _, Nat.le_refl _, by decide, rfl, rfl⟩⟩
    have hc := entsV_cell es
    have hzz : w1.heap.size ≤ (w1.alloc (.cells #[] 51)).heap.size := hba.size
    have hwr : IntKind.i64.wrap (ix + (s.n : Int)) = ix + (s.n : Int) := by rw [IntKind.wrap_i64]; omega
    have HB1 : Hid _ := hb1
    clear kf hb1
    go_wp2_with (at_builtin; refine ap_row elemE11 _ rfl _ _ rfl w1.heap.size _ _ 0 s.n [] (entsV es) rfl rfl hx hc hrow (by omega) (by omega) hzz ?_; intro v' w2 hown' hgrow hwh; refine Halt13.out ?_)
    rw [Nat.zero_add, List.nil_append] at hown'
    obtain ⟨p', n', c', rfl⟩ := row_shape11 hown'
    obtain rfl := (row_n13 hown').symm
    have hb2 : Below w1.heap.size w1 w2 := hba.trans ((Below.refl _ _).grown hgrow hzz fun k hk => by cases hk; exact Nat.le_refl _)
    have HB2 : Hid (Below w.heap.size w w2) := HB1.out.trans (hb2.mono hz1)
    have HO : Hid _ := hown'
    have hz2 := hb2.size
    clear hgrow hwh hrow hx hown' hb2 hba hc hzz
    constructor
    go_wp2
    go_ret
    have hbb : Below w2.heap.size w2 (w2.alloc (.cells #[.int .i64 ix, .int .i64 t, .slice p' s.n c', .int .i64 ix, .int .i64 ix, .int .i64 (ix + (s.n : Int))] 38)) := (Below.refl _ _).alloc (Nat.le_refl _) _
    have hbox := heap_alloc_new w2 (.cells #[.int .i64 ix, .int .i64 t, .slice p' s.n c', .int .i64 ix, .int .i64 ix, .int .i64 (ix + (s.n : Int))] 38)
    have hB := HB2.out.trans (hbb.mono HB2.out.size)
    have hz := HB2.out.size
    have hlm : (es.map EntV.e).length = s.n := by rw [List.length_map, HNN.out]
    refine ⟨_, rfl, hB, (fun h => by cases h), fun L hL => ⟨w2.heap.size, rfl, hz, ⟨p', s.n, c'⟩, es, ?_⟩⟩
    obtain rfl := (Option.some.inj hL).symm
    have hB0 := HB0.out.size
    refine RfG.of_row (HB0.out.trans (hB.mono hB0)) hB0 ?_ hz ?_ HFW.out rfl HI.out ?_ hl
    · rw [hbox]
      unfold rfArr
      rw [hlm]
    · have h9 := row_base (row_below HO.out hbb (Nat.le_refl _)) hz1
      rw [HNN.out]
      exact h9
    · show ix + ((es.map EntV.e).length : Int) ≤ _
      rw [hlm]; omega
end
section
variable {w0 w w' wa : World} {r : Nat} {G : Nat → Prop} {s s' : Sl10} {es ys : List EntV} {L L' : LG}
theorem RTurns13.of_row {B : Nat} (h : RfG w0 w r G s es L) (hb : Below w.heap.size w wa) (ht : Turn (fun k => k = r) wa w') (ho : w'.heap[r]? = some (.cells (rfArr L' s') 38 (0, 0))) (hB : w.heap.size ≤ B)
    (hrow : w'.ownsRow B 51 13 (.slice s'.p s'.n s'.c) ys.length (entsV ys)) (ha : ∀ y ∈ ys, FitsE w0 y) (hm : ys.map EntV.e = L'.l) (hI : L'.Inv) (hq : L'.end ≤ 1125899906842624) (hs : s'.n ≤ 837723144948) : RTurns13 w0 w r G L' w' := by
  have hz := hb.size
  have hz2 := ht.size
  have hz0 := h.bel.size
  have hT : Turn (fun k => k = r ∨ G k) w w' := (Turn.of_below hb (Nat.le_refl _)).wide ht fun k hk => .inl (.inl hk)
  have hbw : Below w0.heap.size w0 w' := h.bel.trans (hT.below (fun k hk => (h.own k hk).1) hz0)
  obtain ⟨h1, h2, h3, h4⟩ := row_at13 hrow
  refine ⟨⟨s', ys, ho, h1, h2, h3, fun hc => ?_, ha, hbw, fun k hk => ?_, hm, hI, hq, hs⟩, hT⟩
  · obtain ⟨g, o, a, e1, e2, e3⟩ := h4 hc
    exact ⟨g, o, a, e1, .inr ⟨by omega, e2.2⟩, e3⟩
  · rcases hk with hk | hk | hk
    · have := h.own k (.inl hk); omega
    · have := h.own k (.inr hk); omega
    · omega

set_option maxRecDepth 100000 in
set_option maxHeartbeats 1000000 in
theorem rcompact13_any (h : RfG w0 w r G s es L) (i : Int) :
    Calls Try.prog 37 #[.pointer (some ⟨r, 0, none⟩), .int .i64 i] w fun e w' => e = .returned (.bool (L.compact i).1) ∧ RTurns13 w0 w r G (L.compact i).2 w' := by
  obtain ⟨c0, c1, c2, c3, c4, c5⟩ := h.cells
  have hlt := h.lt
  have HH : Hid (RfG w0 w r G s es L) := h
  by_cases h1 : i ≤ L.ix
  · have HF : Hid (L.compact i = (false, L)) := if_neg (by omega)
    rw [HF.out]
    clear h
    go_enter Try.func37, Try.ntmps37
    go_wp2
    go_ret
    exact ⟨rfl, .of_below HH.out (Below.refl _ _)⟩
  by_cases h2 : L.used < i
  · have HF : Hid (L.compact i = (false, L)) := if_neg (by omega)
    rw [HF.out]
    clear h
    go_enter Try.func37, Try.ntmps37
    go_wp2
    go_ret
    exact ⟨rfl, .of_below HH.out (Below.refl _ _)⟩
  by_cases h3 : L.safe < i
  · have HF : Hid (L.compact i = (false, L)) := if_neg (by omega)
    rw [HF.out]
    clear h
    go_enter Try.func37, Try.ntmps37
    go_wp2
    go_ret
    exact ⟨rfl, .of_below HH.out (Below.refl _ _)⟩
  obtain ⟨x0, x1, he, e1, n1, d0, d1, u0, u1, s0, s1⟩ := h.nums
  obtain ⟨n, hn⟩ : ∃ n : Nat, i = L.ix + n := ⟨(i - L.ix).toNat, by omega⟩
  have HF : Hid (L.compact i = (true, ⟨i, (L.term i).1, L.l.drop n, L.done, L.used, L.safe⟩)) := by rw [hn]; exact compact_is13 (by omega) (by omega) (by omega)
  have hI := h.inv.compact i
  have hE := LG.end_compact h.inv i
  rw [HF.out] at hI hE ⊢
  have HI : Hid _ := hI
  have HEn : Hid _ := hE
  have HSl : Hid (L.slice (i + 1) s.n = L.l.drop n) := by
    have := LG.slice_from (L := L) (j := n)
    rw [h.len] at this
    rw [hn]
    exact this
  have kt := rterm13_any h i
  have hz0 := h.bel.size
  have w1 : IntKind.i64.wrap (i + 1) = i + 1 := by rw [IntKind.wrap_i64]; omega
  clear h hI hE he e1 d0 d1 u0 u1 s0 s1 hn
  obtain ⟨t, HTm⟩ : ∃ t, Hid ((L.term i).1 = t) := ⟨_, rfl⟩
  have HTop : Hid (L.end ≤ 1125899906842624) := HH.out.top
  rw [HTm.out] at kt HI HEn ⊢
  go_enter Try.func37, Try.ntmps37
  go_wp2_with fail
  refine kt.mono ?_
  rintro _ wt ⟨rfl, hbt⟩
  have hLt := HH.out.below hbt
  obtain ⟨-, -, t2, -, -, -⟩ := hLt.cells
  have hltt := hLt.lt
  have ks := rslice13_any hLt (i + 1) (s.n : Nat)
  rw [HSl.out] at ks
  have HBt : Hid _ := hbt
  clear kt hLt hbt c0 c1 c2 c3 c4 c5
  go_wp2_with fail
  refine ks.mono ?_
  rintro _ w3 ⟨s', ys, rfl, hrow, hmem, hmap, hb3⟩
  have hzt := HBt.out.size
  have hb3' := HBt.out.trans (hb3.mono hzt)
  have hL3 := HH.out.below hb3'
  have hlt3 := hL3.lt
  have f2 := frozen9 hL3.obj 2
  have d2 : w3.cell? ⟨r, 2, none⟩ = some (.slice s.p s.n s.c) := box_cell hL3.obj 2
  have o1 := set_block9 hL3.obj 2 (.slice s'.p s'.n s'.c) (by show 2 < 6; decide)
  have f0 := frozen9 o1 0
  have d0 : (w3.setCell ⟨r, 2, none⟩ (.slice s'.p s'.n s'.c)).cell? ⟨r, 0, none⟩ = some (.int .i64 L.ix) := box_cell o1 0
  have o2 := set_block9 o1 0 (.int .i64 i) (by rw [Array.size_set]; show 0 < 6; decide)
  have f1 := frozen9 o2 1
  have d1 : ((w3.setCell ⟨r, 2, none⟩ (.slice s'.p s'.n s'.c)).setCell ⟨r, 0, none⟩ (.int .i64 i)).cell? ⟨r, 1, none⟩ = some (.int .i64 L.t0) := box_cell o2 1
  have o3 := set_block9 o2 1 (.int .i64 t) (by rw [Array.size_set, Array.size_set]; show 1 < 6; decide)
  have hT : Turn (fun k => k = r) w3 (((w3.setCell ⟨r, 2, none⟩ (.slice s'.p s'.n s'.c)).setCell ⟨r, 0, none⟩ (.int .i64 i)).setCell ⟨r, 1, none⟩ (.int .i64 t)) := (((Turn.refl (fun k => k = r) w3).setCell (p := ⟨r, 2, none⟩) (.inl rfl) _).setCell (p := ⟨r, 0, none⟩) (.inl rfl) _).setCell (p := ⟨r, 1, none⟩) (.inl rfl) _
  have hrow2 := row_same (w' := ((w3.setCell ⟨r, 2, none⟩ (.slice s'.p s'.n s'.c)).setCell ⟨r, 0, none⟩ (.int .i64 i)).setCell ⟨r, 1, none⟩ (.int .i64 t)) hrow fun g hg => hT.block g (World.ownsRow.lt hrow g hg).2 (by have := (World.ownsRow.lt hrow g hg).1; have := HH.out.lt; omega)
  have hsn : s'.n ≤ 837723144948 := by
    have e1 := (row_at13 hrow).1
    have e2 := congrArg List.length hmap
    rw [List.length_map, List.length_drop, HH.out.len] at e2
    have := HH.out.sz
    omega
  have HT : Hid (RTurns13 w0 w r G ⟨i, t, L.l.drop n, L.done, L.used, L.safe⟩ (((w3.setCell ⟨r, 2, none⟩ (.slice s'.p s'.n s'.c)).setCell ⟨r, 0, none⟩ (.int .i64 i)).setCell ⟨r, 1, none⟩ (.int .i64 t))) :=
    .of_row HH.out hb3' hT o3 hzt hrow2 (fun y hy => HH.out.all y (hmem y hy)) hmap HI.out (by rw [HEn.out]; exact HTop.out) hsn
  clear hL3 o1 o2 o3 hT hrow hrow2 hmem hmap hb3 hb3' ks
  go_wp2
  go_ret
  exact ⟨rfl, HT.out⟩
end
end Go.Proofs.Ytephoegcpjdglaa

namespace Go.Proofs.Ytephoegcpjdglaa
open Go.RowKit Go.Shelf
set_option maxRecDepth 100000 in
set_option maxHeartbeats 1000000 in
theorem like_nil13 (p q : Option Addr) (n c d : Nat) (w : World) :
    Calls Try.prog 33 #[.slice p n c, .slice q 0 d] w fun e w' => e = .returned (.bool (decide (n = 0))) ∧ Below w.heap.size w w' := by
  by_cases h0 : n = 0
  · subst h0
    go_enter Try.func33, Try.ntmps33
    go_wp2
    go_loop [13] (fun t => t = .int .i64 0) (fun _ => 0)
    case atStart => rfl
    case round =>
      obtain rfl := hrel
      go_wp2
      go_ret
      exact ⟨rfl, Below.refl _ _⟩
  · have hn : (n : Int) ≠ 0 := by omega
    have hd : decide (n = 0) = false := decide_eq_false h0
    rw [hd]
    go_enter Try.func33, Try.ntmps33
    go_wp2
    go_ret
    exact ⟨rfl, Below.refl _ _⟩

structure Duo13 (w0 wB w : World) (F : Nat → Prop) (b : Nat) (G : Nat → Prop) (L : LG) (r : Nat) (H : Nat → Prop) (M : LG) : Prop where
  one : Lg13 w0 w b G L
  two : ∃ s es, RfG w0 w r H s es M
  apart : ∀ k, (k = b ∨ G k) → ¬ (k = r ∨ H k)
  sz : wB.heap.size ≤ w.heap.size
  fix : ∀ k, F k → k < wB.heap.size ∧ w.heap[k]? = wB.heap[k]? ∧ ¬ (k = b ∨ G k) ∧ ¬ (k = r ∨ H k)
section
variable {w0 wB w w' : World} {F G H : Nat → Prop} {b r : Nat} {L L' M M' : LG}
theorem Duo13.below (h : Duo13 w0 wB w F b G L r H M) (hb : Below w.heap.size w w') : Duo13 w0 wB w' F b G L r H M := by
  obtain ⟨s, es, h2⟩ := h.two
  refine ⟨h.one.below hb, ⟨s, es, h2.below hb⟩, h.apart, Nat.le_trans h.sz hb.size, fun k hk => ?_⟩
  obtain ⟨h3, h4, h5⟩ := h.fix k hk
  exact ⟨h3, (hb.block k (Nat.lt_of_lt_of_le h3 h.sz)).trans h4, h5⟩
theorem Duo13.left (h : Duo13 w0 wB w F b G L r H M) (ht : Turns13 w b G L' w') : Duo13 w0 wB w' F b (more8 G w w') L' r H M := by
  obtain ⟨s, es, h2⟩ := h.two
  have h1 := h.one.turns ht
  have hz := ht.turn.size
  refine ⟨h1, ⟨s, es, h2.turn ht.turn h.apart h.one.foot⟩, fun k hk hk2 => ?_, Nat.le_trans h.sz hz, fun k hk => ?_⟩
  · rcases hk with hk | hk | hk
    · exact h.apart k (.inl hk) hk2
    · exact h.apart k (.inr hk) hk2
    · have := (h2.own k hk2).2; omega
  · obtain ⟨h3, h4, h5, h6⟩ := h.fix k hk
    have hlt := Nat.lt_of_lt_of_le h3 h.sz
    refine ⟨h3, (ht.turn.block k hlt h5).trans h4, fun hk2 => ?_, h6⟩
    rcases hk2 with hk2 | hk2 | hk2
    · exact h5 (.inl hk2)
    · exact h5 (.inr hk2)
    · omega
theorem Duo13.right (h : Duo13 w0 wB w F b G L r H M) (ht : RTurns13 w0 w r H M' w') : Duo13 w0 wB w' F b G L r (more8 H w w') M' := by
  obtain ⟨s, es, h2⟩ := h.two
  have hz := ht.turn.size
  have hz0 := h.one.bel.size
  refine ⟨⟨h.one.log.turn ht.turn fun k hk hk2 => h.apart k hk2 hk, fun k hk => ⟨(h.one.own k hk).1, Nat.lt_of_lt_of_le (h.one.own k hk).2 hz⟩, h.one.ob, h.one.bel.trans (ht.turn.below (fun k hk => (h2.own k hk).1) hz0)⟩, ht.log, fun k hk hk2 => ?_, Nat.le_trans h.sz hz, fun k hk => ?_⟩
  · rcases hk2 with hk2 | hk2 | hk2
    · exact h.apart k hk (.inl hk2)
    · exact h.apart k hk (.inr hk2)
    · rcases hk with hk | hk
      · subst hk; have := h.one.lt; omega
      · have := (h.one.own k hk).2; omega
  · obtain ⟨h3, h4, h5, h6⟩ := h.fix k hk
    have hlt := Nat.lt_of_lt_of_le h3 h.sz
    refine ⟨h3, (ht.turn.block k hlt h6).trans h4, h5, fun hk2 => ?_⟩
    rcases hk2 with hk2 | hk2 | hk2
    · exact h6 (.inl hk2)
    · exact h6 (.inr hk2)
    · omega
theorem Duo13.more (h : Duo13 w0 wB w F b G L r H M) (hb : Below w.heap.size w w') : Duo13 w0 w' w' (fun k => F k ∨ w.heap.size ≤ k ∧ k < w'.heap.size) b G L r H M := by
  have h1 := h.below hb
  obtain ⟨s, es, h2⟩ := h.two
  refine ⟨h1.one, h1.two, h1.apart, Nat.le_refl _, fun k hk => ?_⟩
  rcases hk with hk | hk
  · obtain ⟨h3, h4, h5⟩ := h.fix k hk
    exact ⟨Nat.lt_of_lt_of_le h3 (Nat.le_trans h.sz hb.size), rfl, h5⟩
  · refine ⟨hk.2, rfl, fun hk2 => ?_, fun hk2 => ?_⟩
    · rcases hk2 with hk2 | hk2
      · subst hk2; have := h.one.lt; omega
      · have := (h.one.own k hk2).2; omega
    · have := (h2.own k hk2).2; omega
theorem Duo13.bel (h : Duo13 w0 wB w F b G L r H M) : Below w0.heap.size w0 w := h.one.bel
theorem Duo13.box (h : Duo13 w0 wB w F b G L r H M) {k : Nat} (hk : F k) {o : Obj} (ho : wB.heap[k]? = some o) : w.heap[k]? = some o := (h.fix k hk).2.1.trans ho
theorem Duo13.rebase {wC : World} {F' : Nat → Prop} (h : Duo13 w0 wB w F b G L r H M) (hz : wC.heap.size ≤ wB.heap.size) (hf : ∀ k, F' k → F k ∧ k < wC.heap.size ∧ wB.heap[k]? = wC.heap[k]?) : Duo13 w0 wC w F' b G L r H M :=
  ⟨h.one, h.two, h.apart, Nat.le_trans hz h.sz, fun k hk => by
    obtain ⟨h1, h2, h3⟩ := hf k hk
    obtain ⟨h4, h5, h6⟩ := h.fix k h1
    exact ⟨h2, h5.trans h3, h6⟩⟩
end
section
variable {w0 wB w w1 w2 : World} {F G H : Nat → Prop} {b r : Nat} {L M : LG}
theorem Duo13.cell (h : Duo13 w0 wB w F b G L r H M) {k i : Nat} (hk : F k) {v : Value} (ha : wB.cell? ⟨k, i, none⟩ = some v) : w.cell? ⟨k, i, none⟩ = some v :=
  (World.cell?_of_block (a := ⟨k, i, none⟩) (h.fix k hk).2.1).trans ha
theorem Duo13.over (h : Duo13 w0 wB w F b G L r H M) {s : Sl10} {ys : List EntV} (ho : OwnsEs w1 w.heap.size s ys) (ht : Turn (fun k => k = r ∨ H k) w1 w2) : HasE w2 s ys := by
  obtain ⟨_, _, h2⟩ := h.two
  have hs : ∀ k, (w.heap.size ≤ k ∧ k < w1.heap.size) → ¬ (k = r ∨ H k) := fun k hk hk2 => by have := (h2.own k hk2).2; omega
  have hR : RowG w1 (fun k => w.heap.size ≤ k ∧ k < w1.heap.size) s ys := RowG.of_owns ho.row (fun k h1 h2 => ⟨h1, h2⟩) fun e he => EntG.of_owns (ho.all e he) fun k h1 h2 => ⟨h1, h2⟩
  exact (hR.stay (Stay.of_turn ht hs) (Stay.of_turn ht hs)).has
theorem lcommit13 (h : Duo13 w0 wB w F b G L r H M) (i : Int) :
    Calls Try.prog 29 #[.pointer (some ⟨b, 0, none⟩), .int .i64 i] w fun e w' => e = .returned (.bool (L.commit i).1) ∧ ∃ G', Duo13 w0 wB w' F b G' (L.commit i).2 r H M := by
  obtain ⟨s, es, g, hl⟩ := h.one.log
  exact (commit13_any hl i).mono fun e w' ⟨he, ht⟩ => ⟨he, _, h.left ht⟩
theorem lsure13 (h : Duo13 w0 wB w F b G L r H M) (i : Int) :
    Calls Try.prog 31 #[.pointer (some ⟨b, 0, none⟩), .int .i64 i] w fun e w' => e = .returned (.tuple #[]) ∧ ∃ G', Duo13 w0 wB w' F b G' (L.sure i) r H M := by
  obtain ⟨s, es, g, hl⟩ := h.one.log
  exact (sure13_any hl i).mono fun e w' ⟨he, ht⟩ => ⟨he, _, h.left ht⟩
theorem lcompact13 (h : Duo13 w0 wB w F b G L r H M) (i : Int) :
    Calls Try.prog 36 #[.pointer (some ⟨b, 0, none⟩), .int .i64 i] w fun e w' => e = .returned (.bool (L.compact i).1) ∧ ∃ G', Duo13 w0 wB w' F b G' (L.compact i).2 r H M := by
  obtain ⟨s, es, g, hl⟩ := h.one.log
  exact (compact13_any hl i).mono fun e w' ⟨he, ht⟩ => ⟨he, _, h.left ht⟩
theorem slice_len13 {L : LG} {f m : Int} : (L.slice f m).length ≤ L.l.length := by
  unfold LG.slice
  split
  · exact Nat.zero_le _
  · rw [List.length_take, List.length_drop]; omega
theorem apply_len13 {L : LG} {m : Int} : (L.apply m).1.length ≤ L.l.length := by
  unfold LG.apply
  split
  · exact Nat.zero_le _
  · exact slice_len13
theorem lapply13 (h : Duo13 w0 wB w F b G L r H M) (m : Int) :
    Calls Try.prog 34 #[.pointer (some ⟨b, 0, none⟩), .int .i64 m] w fun e w' => ∃ (s' : Sl10) (ys : List EntV), e = .returned (.slice s'.p s'.n s'.c) ∧ OwnsEs w' w.heap.size s' ys ∧ ys.map EntV.e = (L.apply m).1 ∧ s'.n ≤ 837723144948 ∧ ∃ G', Duo13 w0 wB w' F b G' (L.apply m).2 r H M := by
  obtain ⟨s, es, g, hl⟩ := h.one.log
  refine (apply13_any hl m).mono ?_
  rintro e w' ⟨s', ys, he, ho, hm, ht⟩
  refine ⟨s', ys, he, ho, hm, ?_, _, h.left ht⟩
  have h1 := congrArg List.length hm
  have h2 := apply_len13 (L := L) (m := m)
  have h3 := hl.n
  have h4 := hl.sz
  have h5 := (row_at13 ho.row).1
  rw [List.length_map] at h1
  omega
theorem lslice13 (h : Duo13 w0 wB w F b G L r H M) (f m : Int) :
    Calls Try.prog 13 #[.pointer (some ⟨b, 0, none⟩), .int .i64 f, .int .i64 m] w fun e w' => ∃ (s' : Sl10) (ys : List EntV), e = .returned (.slice s'.p s'.n s'.c) ∧ OwnsEs w' w.heap.size s' ys ∧ ys.map EntV.e = L.slice f m ∧ s'.n ≤ 837723144948 ∧ Below w.heap.size w w' ∧ Duo13 w0 wB w' F b G L r H M := by
  obtain ⟨s, es, g, hl⟩ := h.one.log
  refine (slice13_any hl f m).mono ?_
  rintro e w' ⟨s', ys, he, ho, hm, hb⟩
  refine ⟨s', ys, he, ho, hm, ?_, hb, h.below hb⟩
  have h1 := congrArg List.length hm
  have h2 := slice_len13 (L := L) (f := f) (m := m)
  have h3 := hl.n
  have h4 := hl.sz
  have h5 := (row_at13 ho.row).1
  rw [List.length_map] at h1
  omega
theorem lterm13 (h : Duo13 w0 wB w F b G L r H M) (i : Int) :
    Calls Try.prog 40 #[.pointer (some ⟨b, 0, none⟩), .int .i64 i] w fun e w' => e = .returned (.tuple #[.int .i64 (L.term i).1, .int .i64 (L.term i).2]) ∧ Duo13 w0 wB w' F b G L r H M := by
  obtain ⟨s, es, g, hl⟩ := h.one.log
  exact (term13_any hl i).mono fun e w' ⟨he, hb⟩ => ⟨he, h.below hb⟩
theorem lnewer13 (h : Duo13 w0 wB w F b G L r H M) (i t : Int) :
    Calls Try.prog 43 #[.pointer (some ⟨b, 0, none⟩), .int .i64 i, .int .i64 t] w fun e w' => e = .returned (.bool (L.newer i t)) ∧ Duo13 w0 wB w' F b G L r H M := by
  obtain ⟨s, es, g, hl⟩ := h.one.log
  exact (newer13_any hl i t).mono fun e w' ⟨he, hb⟩ => ⟨he, h.below hb⟩
theorem lhint13 (h : Duo13 w0 wB w F b G L r H M) (i t : Int) (hi : inI i) :
    Calls Try.prog 20 #[.pointer (some ⟨b, 0, none⟩), .int .i64 i, .int .i64 t] w fun e w' => e = .returned (.int .i64 (L.hint i t)) ∧ Duo13 w0 wB w' F b G L r H M := by
  obtain ⟨s, es, g, hl⟩ := h.one.log
  exact (hint13_any hl i t hi).mono fun e w' ⟨he, hb⟩ => ⟨he, h.below hb⟩
theorem rcommitD13 (h : Duo13 w0 wB w F b G L r H M) (i : Int) :
    Calls Try.prog 30 #[.pointer (some ⟨r, 0, none⟩), .int .i64 i] w fun e w' => e = .returned (.bool (M.commit i).1) ∧ ∃ H', Duo13 w0 wB w' F b G L r H' (M.commit i).2 := by
  obtain ⟨s, es, hl⟩ := h.two
  exact (rcommit13_any hl i).mono fun e w' ⟨he, ht⟩ => ⟨he, _, h.right ht⟩
theorem rsureD13 (h : Duo13 w0 wB w F b G L r H M) (i : Int) :
    Calls Try.prog 32 #[.pointer (some ⟨r, 0, none⟩), .int .i64 i] w fun e w' => e = .returned (.tuple #[]) ∧ ∃ H', Duo13 w0 wB w' F b G L r H' (M.sure i) := by
  obtain ⟨s, es, hl⟩ := h.two
  exact (rsure13_any hl i).mono fun e w' ⟨he, ht⟩ => ⟨he, _, h.right ht⟩
theorem rcompactD13 (h : Duo13 w0 wB w F b G L r H M) (i : Int) :
    Calls Try.prog 37 #[.pointer (some ⟨r, 0, none⟩), .int .i64 i] w fun e w' => e = .returned (.bool (M.compact i).1) ∧ ∃ H', Duo13 w0 wB w' F b G L r H' (M.compact i).2 := by
  obtain ⟨s, es, hl⟩ := h.two
  exact (rcompact13_any hl i).mono fun e w' ⟨he, ht⟩ => ⟨he, _, h.right ht⟩
theorem rapplyD13 (h : Duo13 w0 wB w F b G L r H M) (m : Int) :
    Calls Try.prog 35 #[.pointer (some ⟨r, 0, none⟩), .int .i64 m] w fun e w' => ∃ (s' : Sl10) (ys : List EntV), e = .returned (.slice s'.p s'.n s'.c) ∧ HasE w' s' ys ∧ ys.map EntV.e = (M.apply m).1 ∧ Turn (fun k => k = r ∨ H k) w w' ∧ ∃ H', Duo13 w0 wB w' F b G L r H' (M.apply m).2 := by
  obtain ⟨s, es, hl⟩ := h.two
  refine (rapply13_any hl m).mono ?_
  rintro e w' ⟨s', ys, he, hg, ht⟩
  have h1 := h.right ht
  exact ⟨s', ys, he, hg.has hl.all h1.bel, hg.map, ht.turn, _, h1⟩
theorem rsliceD13 (h : Duo13 w0 wB w F b G L r H M) (f m : Int) :
    Calls Try.prog 42 #[.pointer (some ⟨r, 0, none⟩), .int .i64 f, .int .i64 m] w fun e w' => ∃ (s' : Sl10) (ys : List EntV), e = .returned (.slice s'.p s'.n s'.c) ∧ HasE w' s' ys ∧ ys.map EntV.e = M.slice f m ∧ Turn (fun k => k = r ∨ H k) w w' ∧ Duo13 w0 wB w' F b G L r H M := by
  obtain ⟨s, es, hl⟩ := h.two
  refine (rslice13_any hl f m).mono ?_
  rintro e w' ⟨s', ys, he, hrow, hmem, hmap, hb⟩
  have h1 := h.below hb
  exact ⟨s', ys, he, (Gave13.mk hrow hmem hmap).has hl.all h1.bel, hmap, Turn.of_below hb (Nat.le_refl _), h1⟩
theorem rtermD13 (h : Duo13 w0 wB w F b G L r H M) (i : Int) :
    Calls Try.prog 41 #[.pointer (some ⟨r, 0, none⟩), .int .i64 i] w fun e w' => e = .returned (.tuple #[.int .i64 (M.term i).1, .int .i64 (M.term i).2]) ∧ Duo13 w0 wB w' F b G L r H M := by
  obtain ⟨s, es, hl⟩ := h.two
  exact (rterm13_any hl i).mono fun e w' ⟨he, hb⟩ => ⟨he, h.below hb⟩
theorem rnewerD13 (h : Duo13 w0 wB w F b G L r H M) (i t : Int) :
    Calls Try.prog 44 #[.pointer (some ⟨r, 0, none⟩), .int .i64 i, .int .i64 t] w fun e w' => e = .returned (.bool (M.newer i t)) ∧ Duo13 w0 wB w' F b G L r H M := by
  obtain ⟨s, es, hl⟩ := h.two
  exact (rnewer13_any hl i t).mono fun e w' ⟨he, hb⟩ => ⟨he, h.below hb⟩
theorem rhintD13 (h : Duo13 w0 wB w F b G L r H M) (i t : Int) (hi : inI i) :
    Calls Try.prog 45 #[.pointer (some ⟨r, 0, none⟩), .int .i64 i, .int .i64 t] w fun e w' => e = .returned (.int .i64 (M.hint i t)) ∧ Duo13 w0 wB w' F b G L r H M := by
  obtain ⟨s, es, hl⟩ := h.two
  exact (rhint13_any hl i t hi).mono fun e w' ⟨he, hb⟩ => ⟨he, h.below hb⟩
theorem likeD13 (h : Duo13 w0 wB w F b G L r H M) {s t : Sl10} {ys zs : List EntV} (hy : HasE w s ys) (hz : HasE w t zs) (hc : ys.map EntV.e = zs.map EntV.e ∨ zs.map EntV.e = []) (hl : s.n ≤ 837723144948) :
    Calls Try.prog 33 #[.slice s.p s.n s.c, .slice t.p t.n t.c] w fun e w' => ∃ q, e = .returned (.bool q) ∧ (ys.map EntV.e = zs.map EntV.e → q = true) ∧ Duo13 w0 wB w' F b G L r H M := by
  by_cases hq : ys.map EntV.e = zs.map EntV.e
  · exact (like_eq s.p t.p s.n s.c t.n t.c ys zs w hy hz hq (by omega)).mono fun e w' ⟨he, hb⟩ => ⟨true, he, fun _ => rfl, h.below hb⟩
  · have h0 : zs.map EntV.e = [] := hc.resolve_left hq
    have hn : t.n = 0 := by rw [← hz.n]; simpa using congrArg List.length h0
    rw [hn]
    exact (like_nil13 s.p t.p s.n s.c t.c w).mono fun e w' ⟨he, hb⟩ => ⟨_, he, fun e2 => absurd e2 hq, h.below hb⟩
end
end Go.Proofs.Ytephoegcpjdglaa

namespace Go.Proofs.Ytephoegcpjdglaa
open Go.RowKit Go.Shelf
attribute [local go_sem ↓] ldE_exec stE_exec ldE_execI stE_execI ldE_run ldE_box ldC_exec stC_exec ldC_execI stC_execI ldC_run oc_int oc_bool oc_string oc_slice oc_pointer
def LG.acted13 (L : LG) (k n : Int) : LG := if k = 2 then (L.commit n).2 else if k = 3 then L.sure n else if k = 4 then (L.apply n).2 else if k = 5 then (L.compact n).2 else L

theorem slice_nil13 {L : LG} {f m : Int} (h : L.l = []) : L.slice f m = [] := by
  unfold LG.slice
  rw [h]
  simp
theorem like_or13 {a b : List Ent10} {ys zs : List EntV} (h1 : ys.map EntV.e = a) (h2 : zs.map EntV.e = b) (h : b = a ∨ b = []) : ys.map EntV.e = zs.map EntV.e ∨ zs.map EntV.e = [] := by
  rw [h1, h2]
  exact h.imp Eq.symm id
theorem apply_nil13 {L : LG} {m : Int} (h : L.l = []) : (L.apply m).1 = [] := by
  unfold LG.apply
  split
  · rfl
  · exact slice_nil13 h

section
variable {w0 wB w w' : World} {F G H : Nat → Prop} {b r : Nat} {L M : LG}
def Acted13 (w0 wB : World) (F : Nat → Prop) (b r : Nat) (L M L' M' : LG) (e : Ending) (w' : World) : Prop :=
  ∃ q, e = .returned (.bool q) ∧ (M = L → q = true) ∧ ∃ G' H', Duo13 w0 wB w' F b G' L' r H' M'
theorem Duo13.act (h : Duo13 w0 wB w F b G L r H M) (a : ActV13) : ∃ F' : Nat → Prop, F' w.heap.size ∧ Duo13 w0 (w.alloc (.cells a.arr 29)) (w.alloc (.cells a.arr 29)) F' b G L r H M ∧
    ∀ {w' : World} {G' H' : Nat → Prop} {L' M' : LG}, Duo13 w0 (w.alloc (.cells a.arr 29)) w' F' b G' L' r H' M' → Duo13 w0 wB w' F b G' L' r H' M' := by
  have hb : Below w.heap.size w (w.alloc (.cells a.arr 29)) := (Below.refl _ _).alloc (Nat.le_refl _) _
  refine ⟨_, .inr ⟨Nat.le_refl _, by simp⟩, h.more hb, fun h2 => h2.rebase (Nat.le_trans h.sz hb.size) fun k hk => ?_⟩
  obtain ⟨h3, h4, -⟩ := h.fix k hk
  exact ⟨.inl hk, h3, (hb.block k (Nat.lt_of_lt_of_le h3 h.sz)).trans h4⟩

set_option maxRecDepth 100000 in
set_option maxHeartbeats 4000000 in
theorem act2_13 (h : Duo13 w0 wB w F b G L r H M) (n m : Int) (s : Sl10) :
    Calls Try.prog 9 #[.pointer (some ⟨b, 0, none⟩), .pointer (some ⟨r, 0, none⟩), .agg #[.int .i64 2, .int .i64 n, .int .i64 m, .slice s.p s.n s.c]] w (Acted13 w0 wB F b r L M (L.commit n).2 (M.commit n).2) := by
  obtain ⟨F', hab, hD, hback⟩ := h.act ⟨2, n, m, s, []⟩
  have hA := heap_alloc_new w (.cells #[.int .i64 2, .int .i64 n, .int .i64 m, .slice s.p s.n s.c] 29)
  have a1 : (w.alloc (.cells #[.int .i64 2, .int .i64 n, .int .i64 m, .slice s.p s.n s.c] 29)).cell? ⟨w.heap.size, 1, none⟩ = some (.int .i64 n) := box_cell hA 1
  have HBk : Hid _ := @hback
  have hlt := box_lt hA
  clear hA h hback
  unfold ActV13.arr at hD HBk
  dsimp only at hD HBk
  go_enter Try.func9, Try.ntmps9
  go_wp2_with fail
  generalize w.alloc (.cells #[.int .i64 2, .int .i64 n, .int .i64 m, .slice s.p s.n s.c] 29) = W at *
  generalize w.heap.size = ab at *
  have hD1 := hD.below (below_drew13 W)
  go_region_held3 (fun w' => w'.cell? ⟨ab, 1, none⟩ = some (.int .i64 n))
    (first | exact a1 | exact Duo13.cell (by assumption) hab a1)
    (first
      | (go_at_call 29; refine Calls.mono (lcommit13 hD1 n) ?_; rintro _ w1 ⟨rfl, G1, h1⟩)
      | (go_at_call 30; refine Calls.mono (rcommitD13 h1 n) ?_; rintro _ w2 ⟨rfl, H2, h2⟩))
  go_wp2
  go_ret
  exact ⟨_, rfl, fun e => by rw [e]; simp, G1, H2, HBk.out h2⟩
set_option maxRecDepth 100000 in
set_option maxHeartbeats 4000000 in
theorem act5_13 (h : Duo13 w0 wB w F b G L r H M) (n m : Int) (s : Sl10) :
    Calls Try.prog 9 #[.pointer (some ⟨b, 0, none⟩), .pointer (some ⟨r, 0, none⟩), .agg #[.int .i64 5, .int .i64 n, .int .i64 m, .slice s.p s.n s.c]] w (Acted13 w0 wB F b r L M (L.compact n).2 (M.compact n).2) := by
  obtain ⟨F', hab, hD, hback⟩ := h.act ⟨5, n, m, s, []⟩
  have hA := heap_alloc_new w (.cells #[.int .i64 5, .int .i64 n, .int .i64 m, .slice s.p s.n s.c] 29)
  have a1 : (w.alloc (.cells #[.int .i64 5, .int .i64 n, .int .i64 m, .slice s.p s.n s.c] 29)).cell? ⟨w.heap.size, 1, none⟩ = some (.int .i64 n) := box_cell hA 1
  have HBk : Hid _ := @hback
  have hlt := box_lt hA
  clear hA h hback
  unfold ActV13.arr at hD HBk
  dsimp only at hD HBk
  go_enter Try.func9, Try.ntmps9
  go_wp2_with fail
  generalize w.alloc (.cells #[.int .i64 5, .int .i64 n, .int .i64 m, .slice s.p s.n s.c] 29) = W at *
  generalize w.heap.size = ab at *
  have hD1 := hD.below (below_drew13 W)
  go_region_held3 (fun w' => w'.cell? ⟨ab, 1, none⟩ = some (.int .i64 n))
    (first | exact a1 | exact Duo13.cell (by assumption) hab a1)
    (first
      | (go_at_call 36; refine Calls.mono (lcompact13 hD1 n) ?_; rintro _ w1 ⟨rfl, G1, h1⟩)
      | (go_at_call 37; refine Calls.mono (rcompactD13 h1 n) ?_; rintro _ w2 ⟨rfl, H2, h2⟩))
  go_wp2
  go_ret
  exact ⟨_, rfl, fun e => by rw [e]; simp, G1, H2, HBk.out h2⟩
set_option maxRecDepth 100000 in
set_option maxHeartbeats 4000000 in
theorem act3_13 (h : Duo13 w0 wB w F b G L r H M) (n m : Int) (s : Sl10) :
    Calls Try.prog 9 #[.pointer (some ⟨b, 0, none⟩), .pointer (some ⟨r, 0, none⟩), .agg #[.int .i64 3, .int .i64 n, .int .i64 m, .slice s.p s.n s.c]] w (Acted13 w0 wB F b r L M (L.sure n) (M.sure n)) := by
  obtain ⟨F', hab, hD, hback⟩ := h.act ⟨3, n, m, s, []⟩
  have hA := heap_alloc_new w (.cells #[.int .i64 3, .int .i64 n, .int .i64 m, .slice s.p s.n s.c] 29)
  have a1 : (w.alloc (.cells #[.int .i64 3, .int .i64 n, .int .i64 m, .slice s.p s.n s.c] 29)).cell? ⟨w.heap.size, 1, none⟩ = some (.int .i64 n) := box_cell hA 1
  have HBk : Hid _ := @hback
  have hlt := box_lt hA
  clear hA h hback
  unfold ActV13.arr at hD HBk
  dsimp only at hD HBk
  have k1 := lsure13 hD n
  go_enter Try.func9, Try.ntmps9
  go_wp2_with fail
  generalize w.alloc (.cells #[.int .i64 3, .int .i64 n, .int .i64 m, .slice s.p s.n s.c] 29) = W at *
  generalize w.heap.size = ab at *
  refine k1.mono ?_
  rintro _ w1 ⟨rfl, G1, h1⟩
  have k2 := rsureD13 h1 n
  have a1' := Duo13.cell h1 hab a1
  have hlt1 : ab < w1.heap.size := Nat.lt_of_lt_of_le hlt h1.sz
  clear k1 a1 hD
  go_wp2_with fail
  refine k2.mono ?_
  rintro _ w2 ⟨rfl, H2, h2⟩
  go_wp2
  go_ret
  exact ⟨_, rfl, fun _ => rfl, G1, H2, HBk.out h2⟩
end
section
variable {w0 wB w w' : World} {F G H : Nat → Prop} {b r : Nat} {L M : LG}
set_option maxRecDepth 100000 in
set_option maxHeartbeats 4000000 in
theorem act4_13 (h : Duo13 w0 wB w F b G L r H M) (hM : M = L ∨ M.l = []) (n m : Int) (s : Sl10) :
    Calls Try.prog 9 #[.pointer (some ⟨b, 0, none⟩), .pointer (some ⟨r, 0, none⟩), .agg #[.int .i64 4, .int .i64 n, .int .i64 m, .slice s.p s.n s.c]] w (Acted13 w0 wB F b r L M (L.apply n).2 (M.apply n).2) := by
  obtain ⟨F', hab, hD, hback⟩ := h.act ⟨4, n, m, s, []⟩
  have hA := heap_alloc_new w (.cells #[.int .i64 4, .int .i64 n, .int .i64 m, .slice s.p s.n s.c] 29)
  have a1 : (w.alloc (.cells #[.int .i64 4, .int .i64 n, .int .i64 m, .slice s.p s.n s.c] 29)).cell? ⟨w.heap.size, 1, none⟩ = some (.int .i64 n) := box_cell hA 1
  have HBk : Hid _ := @hback
  have hlt := box_lt hA
  clear hA h hback
  unfold ActV13.arr at hD HBk
  dsimp only at hD HBk
  go_enter Try.func9, Try.ntmps9
  go_wp2_with fail
  generalize w.alloc (.cells #[.int .i64 4, .int .i64 n, .int .i64 m, .slice s.p s.n s.c] 29) = W at *
  generalize w.heap.size = ab at *
  have hD1 := hD.below (below_drew13 W)
  have HC : Hid (∀ x, (L.apply n).1 = x → (M.apply n).1 = x ∨ (M.apply n).1 = []) := fun x hx => hM.elim (fun e => .inl (by rw [e]; exact hx)) fun e => .inr (apply_nil13 e)
  have HE : Hid (M = L → (L.apply n).1 = (M.apply n).1) := fun e => by rw [e]
  go_region_held3 (fun w' => w'.cell? ⟨ab, 1, none⟩ = some (.int .i64 n))
    (first | exact a1 | exact Duo13.cell (by assumption) hab a1)
    (first
      | (go_at_call 34; refine Calls.mono (lapply13 hD1 n) ?_; rintro _ w1 ⟨s1, ys, rfl, ho, hm1, hs1, G1, h1⟩; have HO : Hid _ := ho; have HM1 : Hid _ := hm1; have HS1 : Hid _ := hs1; clear ho hm1 hs1)
      | (go_at_call 35; refine Calls.mono (rapplyD13 h1 n) ?_; rintro _ w2 ⟨s2, zs, rfl, hz, hm2, ht, H2, h2⟩; have HY : Hid _ := hD1.over HO.out ht; have HZ : Hid _ := hz; have HM2 : Hid _ := hm2; clear hz hm2 ht)
      | (go_at_call 33; refine Calls.mono (likeD13 h2 HY.out HZ.out (like_or13 HM1.out HM2.out (HC.out _ rfl)) HS1.out) ?_; rintro _ w3 ⟨q, rfl, hq, h3⟩; have HQ : Hid _ := hq; clear hq))
  go_wp2
  go_ret
  exact ⟨_, rfl, fun e => HQ.out (by rw [HM1.out, HM2.out]; exact HE.out e), G1, H2, HBk.out h3⟩
end
section
variable {w0 wB w w' : World} {F G H : Nat → Prop} {b r : Nat} {L M : LG}
set_option maxRecDepth 100000 in
set_option maxHeartbeats 4000000 in
theorem act7_13 (h : Duo13 w0 wB w F b G L r H M) (hM : M = L ∨ M.l = []) (n m : Int) (s : Sl10) :
    Calls Try.prog 9 #[.pointer (some ⟨b, 0, none⟩), .pointer (some ⟨r, 0, none⟩), .agg #[.int .i64 7, .int .i64 n, .int .i64 m, .slice s.p s.n s.c]] w (Acted13 w0 wB F b r L M L M) := by
  obtain ⟨F', hab, hD, hback⟩ := h.act ⟨7, n, m, s, []⟩
  have hA := heap_alloc_new w (.cells #[.int .i64 7, .int .i64 n, .int .i64 m, .slice s.p s.n s.c] 29)
  have a1 : (w.alloc (.cells #[.int .i64 7, .int .i64 n, .int .i64 m, .slice s.p s.n s.c] 29)).cell? ⟨w.heap.size, 1, none⟩ = some (.int .i64 n) := box_cell hA 1
  have a2 : (w.alloc (.cells #[.int .i64 7, .int .i64 n, .int .i64 m, .slice s.p s.n s.c] 29)).cell? ⟨w.heap.size, 2, none⟩ = some (.int .i64 m) := box_cell hA 2
  have HBk : Hid _ := @hback
  have hlt := box_lt hA
  clear hA h hback
  unfold ActV13.arr at hD HBk
  dsimp only at hD HBk
  have k1 := lterm13 hD n
  go_enter Try.func9, Try.ntmps9
  go_wp2_with fail
  generalize w.alloc (.cells #[.int .i64 7, .int .i64 n, .int .i64 m, .slice s.p s.n s.c] 29) = W at *
  generalize w.heap.size = ab at *
  refine k1.mono ?_
  rintro _ w1 ⟨rfl, h1⟩
  have k2 := rtermD13 h1 n
  have a1' := Duo13.cell h1 hab a1
  have hlt1 : ab < w1.heap.size := Nat.lt_of_lt_of_le hlt h1.sz
  clear k1 hD
  go_wp2_with fail
  refine k2.mono ?_
  rintro _ w2 ⟨rfl, h2⟩
  have hlt2 : ab < w2.heap.size := Nat.lt_of_lt_of_le hlt h2.sz
  clear k2 a1' hlt1 h1
  have HE1 : Hid (M = L → (L.term n).1 = (M.term n).1 ∧ (L.term n).2 = (M.term n).2) := fun e => by rw [e]; exact ⟨rfl, rfl⟩
  generalize (L.term n).1 = t1 at *
  generalize (M.term n).1 = t2 at *
  generalize (L.term n).2 = e1 at *
  generalize (M.term n).2 = e2 at *
  by_cases q1 : t1 = t2
  · by_cases q2 : e1 = e2
    · have HC : Hid (∀ x, L.slice n m = x → M.slice n m = x ∨ M.slice n m = []) := fun x hx => hM.elim (fun e => .inl (by rw [e]; exact hx)) fun e => .inr (slice_nil13 e)
      have HE : Hid (M = L → L.slice n m = M.slice n m) := fun e => by rw [e]
      have hD1 := h2.below (below_drew13 w2)
      go_wp2_with fail
      go_region_held3 (fun w' => w'.cell? ⟨ab, 1, none⟩ = some (.int .i64 n) ∧ w'.cell? ⟨ab, 2, none⟩ = some (.int .i64 m))
        (first | exact ⟨a1, a2⟩ | exact ⟨Duo13.cell (by assumption) hab a1, Duo13.cell (by assumption) hab a2⟩)
        (first
          | (go_at_call 13; refine Calls.mono (lslice13 hD1 n m) ?_; rintro _ w3 ⟨s1, ys, rfl, ho, hm1, hs1, hb3, h3⟩; have HO : Hid _ := ho; have HM1 : Hid _ := hm1; have HS1 : Hid _ := hs1; clear ho hm1 hs1 hb3)
          | (go_at_call 42; refine Calls.mono (rsliceD13 h3 n m) ?_; rintro _ w4 ⟨s2, zs, rfl, hz, hm2, ht, h4⟩; have HY : Hid _ := hD1.over HO.out ht; have HZ : Hid _ := hz; have HM2 : Hid _ := hm2; clear hz hm2 ht)
          | (go_at_call 33; refine Calls.mono (likeD13 h4 HY.out HZ.out (like_or13 HM1.out HM2.out (HC.out _ rfl)) HS1.out) ?_; rintro _ w5 ⟨q, rfl, hq, h5⟩; have HQ : Hid _ := hq; clear hq))
      go_wp2
      go_ret
      exact ⟨_, rfl, fun e => HQ.out (by rw [HM1.out, HM2.out]; exact HE.out e), G, H, HBk.out h5⟩
    · have a2' := Duo13.cell h2 hab a2
      have e2' : (e1 == e2) = false := by simpa using q2
      go_wp2_with fail
      go_quiet (fail)
      go_wp2
      go_ret
      exact ⟨_, rfl, fun e => absurd (HE1.out e).2 q2, G, H, HBk.out (h2.below (below_drewN (Below.refl _ _) _))⟩
  · have e2' : (t1 == t2) = false := by simpa using q1
    go_wp2_with fail
    go_quiet (fail)
    go_wp2
    go_ret
    exact ⟨_, rfl, fun e => absurd (HE1.out e).1 q1, G, H, HBk.out (h2.below (below_drewN (Below.refl _ _) _))⟩
end
theorem take_no13 {P : Program} {ops : Array Oper} {Q : Exit → Act → World → Prop} {md : Region.Mode} {S : World → Prop} {fuel : Nat} {listed : Array Bool} {a : Act} {w : World} (i : Nat) (d : Option Tmp) {oi : Oper} (hi : ops[i]? = some oi) (hd : oi.dst = d)
    (hs : Region.noSelect ops = true) (hf : Region.free md ops listed i = true) (hr : (Region.ready md ops listed).contains i = true)
    (hQ : ∀ c a w, Q (.panic c) (a.put d undef) w → Q (.panic c) a w) (hw : Region.wanted oi (yielded ops a.tmps) = false) (hS : S w)
    (h : wpAnyH P md ops Q S fuel (listed.setIfInBounds i true) (a.put d undef) w) : wpAnyH P md ops Q S (fuel + 1) listed a w := by
  subst hd
  exact wpAnyH_take hi hs hf hr hQ (Or.inr ⟨hw, rfl⟩) hS h
theorem take_yes13 {P : Program} {ops : Array Oper} {Q : Exit → Act → World → Prop} {md : Region.Mode} {S : World → Prop} {fuel : Nat} {listed : Array Bool} {a : Act} {w : World} (i : Nat) (d : Option Tmp) (v : Value) {oi : Oper} (hi : ops[i]? = some oi) (hd : oi.dst = d)
    (hs : Region.noSelect ops = true) (hf : Region.free md ops listed i = true) (hr : (Region.ready md ops listed).contains i = true)
    (hQ : ∀ c a w, Q (.panic c) (a.put d v) w → Q (.panic c) a w) (hw : Region.wanted oi (yielded ops a.tmps) = true) (hy : ∀ w, S w → (execOp a.eval oi).run P w = .ok (.value v) w) (hS : S w)
    (h : wpAnyH P md ops Q S fuel (listed.setIfInBounds i true) (a.put d v) w) : wpAnyH P md ops Q S (fuel + 1) listed a w := by
  subst hd
  exact wpAnyH_take hi hs hf hr hQ (Or.inl ⟨hw, hy⟩) hS h
section
variable {w0 wB w w' : World} {F G H : Nat → Prop} {b r : Nat} {L M : LG}
theorem lnewerQ13 (h : Duo13 w0 wB w F b G L r H M) (i t : Int) {q : Bool} (hq : L.newer i t = q) :
    Calls Try.prog 43 #[.pointer (some ⟨b, 0, none⟩), .int .i64 i, .int .i64 t] w fun e w' => e = .returned (.bool q) ∧ Duo13 w0 wB w' F b G L r H M := by
  rw [← hq]
  exact lnewer13 h i t
theorem rnewerQ13 (h : Duo13 w0 wB w F b G L r H M) (i t : Int) {q : Bool} (hq : M.newer i t = q) :
    Calls Try.prog 44 #[.pointer (some ⟨r, 0, none⟩), .int .i64 i, .int .i64 t] w fun e w' => e = .returned (.bool q) ∧ Duo13 w0 wB w' F b G L r H M := by
  rw [← hq]
  exact rnewerD13 h i t
set_option maxRecDepth 100000 in
set_option maxHeartbeats 1000000 in
theorem act8_13 (h : Duo13 w0 wB w F b G L r H M) (n m : Int) (hn : inI n) (s : Sl10) :
    Calls Try.prog 9 #[.pointer (some ⟨b, 0, none⟩), .pointer (some ⟨r, 0, none⟩), .agg #[.int .i64 8, .int .i64 n, .int .i64 m, .slice s.p s.n s.c]] w (Acted13 w0 wB F b r L M L M) := by
  obtain ⟨F', hab, hD, hback⟩ := h.act ⟨8, n, m, s, []⟩
  have hA := heap_alloc_new w (.cells #[.int .i64 8, .int .i64 n, .int .i64 m, .slice s.p s.n s.c] 29)
  have a1 : (w.alloc (.cells #[.int .i64 8, .int .i64 n, .int .i64 m, .slice s.p s.n s.c] 29)).cell? ⟨w.heap.size, 1, none⟩ = some (.int .i64 n) := box_cell hA 1
  have a2 : (w.alloc (.cells #[.int .i64 8, .int .i64 n, .int .i64 m, .slice s.p s.n s.c] 29)).cell? ⟨w.heap.size, 2, none⟩ = some (.int .i64 m) := box_cell hA 2
  have HBk : Hid _ := @hback
  have hlt := box_lt hA
  clear hA h hback
  unfold ActV13.arr at hD HBk
  dsimp only at hD HBk
  go_enter Try.func9, Try.ntmps9
  go_wp2_with fail
  generalize w.alloc (.cells #[.int .i64 8, .int .i64 n, .int .i64 m, .slice s.p s.n s.c] 29) = W at *
  generalize w.heap.size = ab at *
  have hD1 := hD.below (below_drew13 W)
  have HE1 : Hid (M = L → L.newer n m = M.newer n m ∧ L.hint n m = M.hint n m) := fun e => by rw [e]; exact ⟨rfl, rfl⟩
  obtain ⟨q1, HQ1⟩ : ∃ q, Hid (L.newer n m = q) := ⟨_, rfl⟩
  obtain ⟨q2, HQ2⟩ : ∃ q, Hid (M.newer n m = q) := ⟨_, rfl⟩
  by_cases hq : q1 = q2
  · subst hq
    go_region_held3 (fun w' => w'.cell? ⟨ab, 1, none⟩ = some (.int .i64 n) ∧ w'.cell? ⟨ab, 2, none⟩ = some (.int .i64 m))
      (first | exact ⟨a1, a2⟩ | exact ⟨Duo13.cell (by assumption) hab a1, Duo13.cell (by assumption) hab a2⟩)
      (first
        | (go_at_call 43; refine Calls.mono (lnewerQ13 hD1 n m HQ1.out) ?_; rintro _ w1 ⟨rfl, h1⟩)
        | (go_at_call 44; refine Calls.mono (rnewerQ13 h1 n m HQ2.out) ?_; rintro _ w2 ⟨rfl, h2⟩)
        | (go_at_call 20; refine Calls.mono (lhint13 h2 n m hn) ?_; rintro _ w3 ⟨rfl, h3⟩)
        | (go_at_call 45; refine Calls.mono (rhintD13 h3 n m hn) ?_; rintro _ w4 ⟨rfl, h4⟩))
    go_wp2
    go_ret
    exact ⟨_, rfl, fun e => by rw [(HE1.out e).2]; simp, G, H, HBk.out h4⟩
  · have HN : Hid (∀ e : M = L, False) := fun e => hq (HQ1.out.symm.trans ((HE1.out e).1.trans HQ2.out))
    cases q1
    all_goals cases q2
    all_goals first
      | exact absurd rfl hq
      | skip
    all_goals
      clear hq
      refine wp_region_held_drew (S := fun w' => Duo13 w0 W w' F' b G L r H M) (by kernel_rfl) hD1 (fun hS => ?_)
      refine take_yes13 0 (some 166) (.pointer (some ⟨b, 0, none⟩)) rfl rfl (by kernel_rfl) (by kernel_rfl) (by kernel_rfl) (fun _ _ _ h => h) (by rfl) (by intro W' hW; go_simp) hS ?_
      simp only [Act.put, List.setIfInBounds_toArray, List.set_cons_zero, List.set_cons_succ]
      refine take_yes13 1 (some 167) (.pointer (some ⟨ab, 1, none⟩)) rfl rfl (by kernel_rfl) (by kernel_rfl) (by kernel_rfl) (fun _ _ _ h => h) (by rfl) (by intro W' hW; go_simp) hS ?_
      simp only [Act.put, List.setIfInBounds_toArray, List.set_cons_zero, List.set_cons_succ]
      refine take_yes13 2 (some 168) (.int .i64 n) rfl rfl (by kernel_rfl) (by kernel_rfl) (by kernel_rfl) (fun _ _ _ h => h) (by rfl) (by intro W' hW; have q1 := Duo13.cell hW hab a1; have ql := Nat.lt_of_lt_of_le hlt hW.sz; go_simp) hS ?_
      simp only [Act.put, List.setIfInBounds_toArray, List.set_cons_zero, List.set_cons_succ]
      refine take_yes13 3 (some 169) (.pointer (some ⟨ab, 2, none⟩)) rfl rfl (by kernel_rfl) (by kernel_rfl) (by kernel_rfl) (fun _ _ _ h => h) (by rfl) (by intro W' hW; go_simp) hS ?_
      simp only [Act.put, List.setIfInBounds_toArray, List.set_cons_zero, List.set_cons_succ]
      refine take_yes13 4 (some 170) (.int .i64 m) rfl rfl (by kernel_rfl) (by kernel_rfl) (by kernel_rfl) (fun _ _ _ h => h) (by rfl) (by intro W' hW; have q1 := Duo13.cell hW hab a2; have ql := Nat.lt_of_lt_of_le hlt hW.sz; go_simp) hS ?_
      simp only [Act.put, List.setIfInBounds_toArray, List.set_cons_zero, List.set_cons_succ]
      refine take_yes13 6 (some 172) (.pointer (some ⟨r, 0, none⟩)) rfl rfl (by kernel_rfl) (by kernel_rfl) (by kernel_rfl) (fun _ _ _ h => h) (by rfl) (by intro W' hW; go_simp) hS ?_
      simp only [Act.put, List.setIfInBounds_toArray, List.set_cons_zero, List.set_cons_succ]
      refine take_yes13 7 (some 173) (.pointer (some ⟨ab, 1, none⟩)) rfl rfl (by kernel_rfl) (by kernel_rfl) (by kernel_rfl) (fun _ _ _ h => h) (by rfl) (by intro W' hW; go_simp) hS ?_
      simp only [Act.put, List.setIfInBounds_toArray, List.set_cons_zero, List.set_cons_succ]
      refine take_yes13 8 (some 174) (.int .i64 n) rfl rfl (by kernel_rfl) (by kernel_rfl) (by kernel_rfl) (fun _ _ _ h => h) (by rfl) (by intro W' hW; have q1 := Duo13.cell hW hab a1; have ql := Nat.lt_of_lt_of_le hlt hW.sz; go_simp) hS ?_
      simp only [Act.put, List.setIfInBounds_toArray, List.set_cons_zero, List.set_cons_succ]
      refine take_yes13 9 (some 175) (.pointer (some ⟨ab, 2, none⟩)) rfl rfl (by kernel_rfl) (by kernel_rfl) (by kernel_rfl) (fun _ _ _ h => h) (by rfl) (by intro W' hW; go_simp) hS ?_
      simp only [Act.put, List.setIfInBounds_toArray, List.set_cons_zero, List.set_cons_succ]
      refine take_yes13 10 (some 176) (.int .i64 m) rfl rfl (by kernel_rfl) (by kernel_rfl) (by kernel_rfl) (fun _ _ _ h => h) (by rfl) (by intro W' hW; have q1 := Duo13.cell hW hab a2; have ql := Nat.lt_of_lt_of_le hlt hW.sz; go_simp) hS ?_
      simp only [Act.put, List.setIfInBounds_toArray, List.set_cons_zero, List.set_cons_succ]
      refine wpAnyH_ready (rs := [5]) (by kernel_rfl) (by simp) ?_
      refine AllReadyH.cons rfl (fun K hK => ?_) AllReadyH.nil
      go_simp
      refine Calls.mono (lnewerQ13 hS n m HQ1.out) ?_
      rintro _ w1 ⟨rfl, hw1⟩
      dsimp only
      refine hK.out _ _ hw1 (fun hS => ?_)
      clear hK K
      try simp only [Act.put, List.setIfInBounds_toArray, List.set_cons_zero, List.set_cons_succ]
      refine wpAnyH_ready (rs := [11]) (by kernel_rfl) (by simp) ?_
      refine AllReadyH.cons rfl (fun K hK => ?_) AllReadyH.nil
      go_simp
      refine Calls.mono (rnewerQ13 hS n m HQ2.out) ?_
      rintro _ w2 ⟨rfl, hw2⟩
      dsimp only
      refine hK.out _ _ hw2 (fun hS => ?_)
      clear hK K
      try simp only [Act.put, List.setIfInBounds_toArray, List.set_cons_zero, List.set_cons_succ]
      refine take_yes13 12 (some 178) (.bool false) rfl rfl (by kernel_rfl) (by kernel_rfl) (by kernel_rfl) (fun _ _ _ h => h) (by rfl) (by intro W' hW; go_simp) hS ?_
      simp only [Act.put, List.setIfInBounds_toArray, List.set_cons_zero, List.set_cons_succ]
      refine take_yes13 13 (some 179) (.bool false) rfl rfl (by kernel_rfl) (by kernel_rfl) (by kernel_rfl) (fun _ _ _ h => h) (by rfl) (by intro W' hW; go_simp) hS ?_
      simp only [Act.put, List.setIfInBounds_toArray, List.set_cons_zero, List.set_cons_succ]
      refine take_no13 14 (some 180) rfl rfl (by kernel_rfl) (by kernel_rfl) (by kernel_rfl) (fun _ _ _ h => h) (by rfl) hS ?_
      simp only [Act.put, List.setIfInBounds_toArray, List.set_cons_zero, List.set_cons_succ]
      refine take_no13 15 (some 181) rfl rfl (by kernel_rfl) (by kernel_rfl) (by kernel_rfl) (fun _ _ _ h => h) (by rfl) hS ?_
      simp only [Act.put, List.setIfInBounds_toArray, List.set_cons_zero, List.set_cons_succ]
      refine take_no13 16 (some 182) rfl rfl (by kernel_rfl) (by kernel_rfl) (by kernel_rfl) (fun _ _ _ h => h) (by rfl) hS ?_
      simp only [Act.put, List.setIfInBounds_toArray, List.set_cons_zero, List.set_cons_succ]
      refine take_no13 17 (some 183) rfl rfl (by kernel_rfl) (by kernel_rfl) (by kernel_rfl) (fun _ _ _ h => h) (by rfl) hS ?_
      simp only [Act.put, List.setIfInBounds_toArray, List.set_cons_zero, List.set_cons_succ]
      refine take_no13 18 (some 184) rfl rfl (by kernel_rfl) (by kernel_rfl) (by kernel_rfl) (fun _ _ _ h => h) (by rfl) hS ?_
      simp only [Act.put, List.setIfInBounds_toArray, List.set_cons_zero, List.set_cons_succ]
      refine take_no13 19 (some 185) rfl rfl (by kernel_rfl) (by kernel_rfl) (by kernel_rfl) (fun _ _ _ h => h) (by rfl) hS ?_
      simp only [Act.put, List.setIfInBounds_toArray, List.set_cons_zero, List.set_cons_succ]
      refine take_no13 20 (some 186) rfl rfl (by kernel_rfl) (by kernel_rfl) (by kernel_rfl) (fun _ _ _ h => h) (by rfl) hS ?_
      simp only [Act.put, List.setIfInBounds_toArray, List.set_cons_zero, List.set_cons_succ]
      refine take_no13 21 (some 187) rfl rfl (by kernel_rfl) (by kernel_rfl) (by kernel_rfl) (fun _ _ _ h => h) (by rfl) hS ?_
      simp only [Act.put, List.setIfInBounds_toArray, List.set_cons_zero, List.set_cons_succ]
      refine take_no13 22 (some 188) rfl rfl (by kernel_rfl) (by kernel_rfl) (by kernel_rfl) (fun _ _ _ h => h) (by rfl) hS ?_
      simp only [Act.put, List.setIfInBounds_toArray, List.set_cons_zero, List.set_cons_succ]
      refine take_no13 23 (some 189) rfl rfl (by kernel_rfl) (by kernel_rfl) (by kernel_rfl) (fun _ _ _ h => h) (by rfl) hS ?_
      simp only [Act.put, List.setIfInBounds_toArray, List.set_cons_zero, List.set_cons_succ]
      refine take_no13 24 (some 190) rfl rfl (by kernel_rfl) (by kernel_rfl) (by kernel_rfl) (fun _ _ _ h => h) (by rfl) hS ?_
      simp only [Act.put, List.setIfInBounds_toArray, List.set_cons_zero, List.set_cons_succ]
      refine take_no13 25 (some 191) rfl rfl (by kernel_rfl) (by kernel_rfl) (by kernel_rfl) (fun _ _ _ h => h) (by rfl) hS ?_
      simp only [Act.put, List.setIfInBounds_toArray, List.set_cons_zero, List.set_cons_succ]
      refine take_no13 26 (some 192) rfl rfl (by kernel_rfl) (by kernel_rfl) (by kernel_rfl) (fun _ _ _ h => h) (by rfl) hS ?_
      simp only [Act.put, List.setIfInBounds_toArray, List.set_cons_zero, List.set_cons_succ]
      refine take_yes13 27 (some 193) (.bool false) rfl rfl (by kernel_rfl) (by kernel_rfl) (by kernel_rfl) (fun _ _ _ h => h) (by rfl) (by intro W' hW; go_simp) hS ?_
      simp only [Act.put, List.setIfInBounds_toArray, List.set_cons_zero, List.set_cons_succ]
      refine take_yes13 28 (some 6) (.bool false) rfl rfl (by kernel_rfl) (by kernel_rfl) (by kernel_rfl) (fun _ _ _ h => h) (by rfl) (by intro W' hW; go_simp) hS ?_
      simp only [Act.put, List.setIfInBounds_toArray, List.set_cons_zero, List.set_cons_succ]
      refine wpAnyH_done (by kernel_rfl) ?_ _
      go_wp2
      go_ret
      exact ⟨_, rfl, fun e => (HN.out e).elim, G, H, HBk.out hS⟩
end
theorem LG.acted_keeps {L : LG} (h : L.Inv) (k n : Int) : L.Keeps (L.acted13 k n) ∧ (L.acted13 k n).end = L.end := by
  unfold LG.acted13
  split
  · refine ⟨L.keeps_commit n, ?_⟩
    unfold LG.commit
    split <;> rfl
  split
  · refine ⟨L.keeps_sure n, ?_⟩
    unfold LG.sure
    generalize (if L.end < n then L.end else n) = q
    split <;> rfl
  split
  · refine ⟨L.keeps_apply n, ?_⟩
    unfold LG.apply
    split <;> rfl
  split
  · exact ⟨LG.keeps_compact h n, LG.end_compact h n⟩
  · exact ⟨.refl L, rfl⟩
structure Keep13 (L L' : LG) (n : Nat) : Prop where
  keeps : L.Keeps L'
  top : L'.end ≤ L.end + n
theorem Keep13.len {L L' : LG} {n : Nat} (h : Keep13 L L' n) : L'.l.length ≤ L.l.length + n := by
  have h1 := h.keeps.ix
  have h2 := h.top
  unfold LG.end at h2
  omega
section
variable {w0 wB w w' : World} {F G H : Nat → Prop} {b r : Nat} {L M : LG}
theorem Duo13.inv (h : Duo13 w0 wB w F b G L r H M) : L.Inv := by
  obtain ⟨s, es, g, hl⟩ := h.one.log
  exact hl.inv
theorem lmatch13 (h : Duo13 w0 wB w F b G L r H M) (i t : Int) (sx : Sl10) (xs : List EntV) (hE : HasE w0 sx xs) (hi : inI i) (hl : L.l.length + sx.n ≤ 837723144948) (htp : L.end + sx.n ≤ 1125899906842624) :
    Calls Try.prog 14 #[.pointer (some ⟨b, 0, none⟩), .int .i64 i, .int .i64 t, .slice sx.p sx.n sx.c] w fun e w' => e = .returned (.tuple #[.int .i64 (L.match_ i t (xs.map EntV.e)).1.1, .bool (L.match_ i t (xs.map EntV.e)).1.2]) ∧ ∃ G', Duo13 w0 wB w' F b G' (L.match_ i t (xs.map EntV.e)).2 r H M := by
  obtain ⟨s, es, g, hg⟩ := h.one.log
  have hlen : es.length = L.l.length := by rw [← hg.map, List.length_map]
  exact (match13_any hg i t sx xs (fun W ht => hE.below (h.one.args ht)) hi (by omega) htp).mono fun e w' ⟨he, ht⟩ => ⟨he, _, h.left ht⟩
theorem lappend13 (h : Duo13 w0 wB w F b G L r H M) (x : EntV) (hx : FitsE w0 x) (hl : L.l.length ≤ 1000000000) (ht : L.end + 1 ≤ 1125899906842624) :
    Calls Try.prog 15 #[.pointer (some ⟨b, 0, none⟩), .agg x.arr] w fun e w' => e = .returned (.int .i64 (L.app x.e).1) ∧ ∃ G', Duo13 w0 wB w' F b G' (L.app x.e).2 r H M := by
  obtain ⟨s, es, g, hg⟩ := h.one.log
  exact (append13_any hg x (hx.below h.bel) hl ht).mono fun e w' ⟨he, ht⟩ => ⟨he, _, h.left ht⟩

set_option maxRecDepth 100000 in
set_option maxHeartbeats 4000000 in
theorem actX_13 (h : Duo13 w0 wB w F b G L r H M) (k n m : Int) (s : Sl10) (h0 : ¬ k = 0) (h1 : ¬ k = 1) (h2 : ¬ k = 2) (h3 : ¬ k = 3) (h4 : ¬ k = 4) (h5 : ¬ k = 5) (h6 : ¬ k = 6) (h7 : ¬ k = 7) (h8 : ¬ k = 8) :
    Calls Try.prog 9 #[.pointer (some ⟨b, 0, none⟩), .pointer (some ⟨r, 0, none⟩), .agg #[.int .i64 k, .int .i64 n, .int .i64 m, .slice s.p s.n s.c]] w (Acted13 w0 wB F b r L M L M) := by
  obtain ⟨F', hab, hD, hback⟩ := h.act ⟨k, n, m, s, []⟩
  have hA := heap_alloc_new w (.cells #[.int .i64 k, .int .i64 n, .int .i64 m, .slice s.p s.n s.c] 29)
  have a0 : (w.alloc (.cells #[.int .i64 k, .int .i64 n, .int .i64 m, .slice s.p s.n s.c] 29)).cell? ⟨w.heap.size, 0, none⟩ = some (.int .i64 k) := box_cell hA 0
  have HBk : Hid _ := hback hD
  have hlt := box_lt hA
  have e0 : (k == 0) = false := by simpa using h0
  have e1 : (k == 1) = false := by simpa using h1
  have e2 : (k == 2) = false := by simpa using h2
  have e3 : (k == 3) = false := by simpa using h3
  have e4 : (k == 4) = false := by simpa using h4
  have e5 : (k == 5) = false := by simpa using h5
  have e6 : (k == 6) = false := by simpa using h6
  have e7 : (k == 7) = false := by simpa using h7
  have e8 : (k == 8) = false := by simpa using h8
  clear hA h hback hD hab
  unfold ActV13.arr at HBk
  dsimp only at HBk
  go_enter Try.func9, Try.ntmps9
  go_wp2
  go_ret
  exact ⟨_, rfl, fun _ => rfl, G, H, HBk.out⟩

theorem actS_13 (h : Duo13 w0 wB w F b G L r H M) (hM : M = L ∨ M.l = []) (a : ActV13) (hn : inI a.n) (h0 : ¬ a.k = 0) (h1 : ¬ a.k = 1) (h6 : ¬ a.k = 6) :
    Calls Try.prog 9 #[.pointer (some ⟨b, 0, none⟩), .pointer (some ⟨r, 0, none⟩), .agg a.arr] w (Acted13 w0 wB F b r L M (L.acted13 a.k a.n) (M.acted13 a.k a.n)) := by
  obtain ⟨k, n, m, s, es⟩ := a
  dsimp only at hn h0 h1 h6
  by_cases h2 : k = 2
  · subst h2; exact act2_13 h n m s
  by_cases h3 : k = 3
  · subst h3; exact act3_13 h n m s
  by_cases h4 : k = 4
  · subst h4; exact act4_13 h hM n m s
  by_cases h5 : k = 5
  · subst h5; exact act5_13 h n m s
  have e1 : ∀ X : LG, X.acted13 k n = X := fun X => by
    unfold LG.acted13
    rw [if_neg h2, if_neg h3, if_neg h4, if_neg h5]
  dsimp only
  rw [e1, e1]
  by_cases h7 : k = 7
  · subst h7; exact act7_13 h hM n m s
  by_cases h8 : k = 8
  · subst h8; exact act8_13 h n m hn s
  exact actX_13 h k n m s h0 h1 h2 h3 h4 h5 h6 h7 h8
end
end Go.Proofs.Ytephoegcpjdglaa

namespace Go.Proofs.Ytephoegcpjdglaa
open Go.RowKit Go.Shelf
attribute [local go_sem ↓] ldE_exec stE_exec ldE_execI stE_execI ldE_run ldE_box ldC_exec stC_exec ldC_execI stC_execI ldC_run oc_int oc_bool oc_string oc_slice oc_pointer
theorem step_row13 {ops : Array Oper} {o : Oper} {a : Act} {K : Act → World → Prop} {Q : Exit → Act → World → Prop} {E : Prop} {W0 : World} (W : World) (hgd : o.guard = none) (s y : Operand)
    (ho : o.op = .call { callee := .builtin .append, args := #[s, y], argTypes := #[22, 22] }) (hb : Below W0.heap.size W0 W)
    (v u : Value) (n m : Nat) (xs news : List Value) (hs : a.eval s = v) (hu : a.eval y = u) (hx : HasR W 13 u m news) (h1 : ∀ u ∈ news, u.oneCell' = true) (hown : W.ownsRow W0.heap.size 51 13 v n xs) (h63 : n + m ≤ 837723144948)
    (hK : ∀ v' w', w'.ownsRow W0.heap.size 51 13 v' (n + m) (xs ++ news) → Below W0.heap.size W0 w' → W.grownBy w' v.ownBlock → K (a.put o.dst v') w') :
    if Region.wanted o (yielded ops a.tmps) = true then Oper.wp Try.prog o a W K Q else E := by
  have hw : Region.wanted o (yielded ops a.tmps) = true := by simp [Region.wanted, hgd]
  rw [if_pos hw]
  obtain ⟨v', w', hr, h2, h3, h4⟩ := run_row elemE11 W o.type W0.heap.size v u n m xs news hx h1 hown (by omega) (by omega) hb.size
  unfold Oper.wp execOp
  simp only [ho, resolve, invoke, builtin, Sem.run_bind, Sem.run_pure, Result.andThen_ok, List.map_toArray, List.map_cons, List.map_nil, hs, hu, hr]
  exact hK v' w' h2 (hb.grown h3 hb.size fun k hk => (World.ownsRow.lt hown k hk).1) h3
theorem empty_own13 {W : World} {B k : Nat} (h : W.heap[k]? = some (.cells #[] 51 (0, 0))) (hB : B ≤ k) : W.ownsRow B 51 13 (.slice (some ⟨k, 0, none⟩) 0 0) 0 [] := ⟨rfl, .inr ⟨k, 0, #[], rfl, hB, h, Nat.le_refl _, by decide, rfl, rfl⟩⟩

theorem lit_has13 {W : World} {k : Nat} {x : EntV} (h : W.heap[k]? = some (.cells x.arr 51 (0, 0))) : HasR W 13 (.slice (some ⟨k, 0, none⟩) 1 1) 1 x.arr.toList := hasR_lit (e := 51) (f := (0, 0)) (by rw [Array.toArray_toList]; exact h) 1 1 rfl (Nat.le_refl _)
theorem alloc2_new13 (W : World) (o1 o2 : Obj) : ((W.alloc o1).alloc o2).heap[W.heap.size + 1]? = some o2 := by
  have := heap_alloc_new (W.alloc o1) o2
  rwa [World.size_alloc] at this
theorem own_ne13 {k g : Nat} (h : k ≠ g) (n c : Nat) : some k ≠ (Value.slice (some ⟨g, 0, none⟩) n c).ownBlock := fun e => h (Option.some.inj e)
section
variable {w0 w w' : World} {r : Nat} {G : Nat → Prop} {s : Sl10} {es : List EntV} {L L' : LG}
theorem rturn_row13 {w3 w5 : World} {x : EntV} {p : Option Addr} {n c : Nat} (h : RfG w0 w r G s es L) (hx : FitsE w0 x) (hb : Below w.heap.size w w3) (hb5 : Below w3.heap.size w3 w5) (ho : w5.ownsRow w3.heap.size 51 13 (.slice p n c) (0 + s.n + 1) ([] ++ entsV es ++ x.arr.toList))
    (hI : ({ L with l := L.l ++ [x.e] } : LG).Inv) (ht : ({ L with l := L.l ++ [x.e] } : LG).end ≤ 1125899906842624) (hs : s.n + 1 ≤ 837723144948) : RTurns13 w0 w r G { L with l := L.l ++ [x.e] } (w5.setCell ⟨r, 2, none⟩ (.slice p n c)) := by
  have hz := hb.size
  have hB := hb.trans (hb5.mono hz)
  have hL5 := h.below hB
  have hlt := h.lt
  have hT : Turn (fun k => k = r) w5 (w5.setCell ⟨r, 2, none⟩ (.slice p n c)) := (Turn.refl (fun k => k = r) w5).setCell (p := ⟨r, 2, none⟩) (.inl rfl) _
  have hn : n = 0 + s.n + 1 := row_n13 ho
  have hlen : (es ++ [x]).length = 0 + s.n + 1 := by rw [List.length_append, h.n]; simp
  have ho2 : w5.ownsRow w3.heap.size 51 13 (.slice p n c) (es ++ [x]).length (entsV (es ++ [x])) := by
    rw [hlen, entsV_append, entsV_one]
    exact ho
  refine .of_row h hB hT (s' := ⟨p, n, c⟩) (ys := es ++ [x]) (set_block9 hL5.obj 2 (.slice p n c) (by show 2 < 6; decide)) hz (row_same ho2 fun g hg => hT.block g (World.ownsRow.lt ho2 g hg).2 (by have := (World.ownsRow.lt ho2 g hg).1; omega)) (fun y hy => ?_) ?_ hI ht (by show n ≤ _; omega)
  · rcases List.mem_append.1 hy with hy | hy
    · exact h.all y hy
    · rw [List.mem_singleton.1 hy]; exact hx
  · rw [List.map_append, h.map]; rfl
attribute [local go_sem ↓] bsE_exec bsE_execI bsE_run
set_option maxRecDepth 100000 in
set_option maxHeartbeats 2000000 in
theorem rappend13_any (h : RfG w0 w r G s es L) (x : EntV) (hx : FitsE w0 x) (hl : L.l.length ≤ 1000000000) (ht : L.end + 1 ≤ 1125899906842624) :
    Calls Try.prog 27 #[.pointer (some ⟨r, 0, none⟩), .agg x.arr] w fun e w' => e = .returned (.int .i64 (L.app x.e).1) ∧ RTurns13 w0 w r G (L.app x.e).2 w' := by
  have hB1 : Below w.heap.size w (w.alloc (.cells x.arr 51)) := (Below.refl _ w).alloc (Nat.le_refl _) _
  have hbx := heap_alloc_new w (.cells x.arr 51)
  have kl := rlast13_any (h.below hB1)
  have HH : Hid (RfG w0 w r G s es L) := h
  have HB1 : Hid _ := hB1
  have HX : Hid (FitsE w x) := hx.below h.bel
  have HX0 : Hid (FitsE w0 x) := hx
  have HBX : Hid _ := hbx
  have hee : 0 ≤ L.end ∧ L.end ≤ 9223372036854775807 := by have h1 := h.nums; have := h1.x0; have := h1.end'; have := h1.e1; omega
  have hIa := h.inv.app x.e
  obtain ⟨q, HR⟩ : ∃ r, Hid (chain13 L.end L.endT [x.e] = r) := ⟨_, rfl⟩
  clear h hB1 hbx hx
  cases q with
  | false =>
    have HF : Hid (L.app x.e = (2, L)) := if_neg (by rw [HR.out]; exact Bool.noConfusion)
    rw [HF.out]
    clear hIa
    go_enter Try.func27, Try.ntmps27
    go_wp2_with fail
    generalize w.alloc (.cells x.arr 51) = W1 at *
    refine kl.mono ?_
    rintro _ w2 ⟨rfl, hb2⟩
    have hB2 := HB1.out.trans (hb2.mono HB1.out.size)
    have hld := ldE_box _ _ _ _ _ (box_below HBX.out hb2) rfl
    have hlt2 := box_lt (box_below HBX.out hb2)
    have kf := rchain13_any (w2.alloc (.cells x.arr 51)) L.end L.endT ⟨some ⟨w2.heap.size, 0, none⟩, 1, 1⟩ [x] (hasE13_one w2 x (HX.out.below hB2)) (show 1 ≤ 1099511627776 by decide) hee.1 hee.2
    rw [show [x].map EntV.e = [x.e] from rfl, HR.out] at kf
    have HB3 : Hid (Below w.heap.size w (w2.alloc (.cells x.arr 51))) := below_same13 hB2 _
    clear kl hb2 hB2
    go_wp2_with fail
    refine kf.mono ?_
    rintro _ w3 ⟨rfl, hb3⟩
    go_wp2
    go_ret
    exact ⟨rfl, .of_below HH.out (HB3.out.trans (hb3.mono HB3.out.size))⟩
  | true =>
    have HF : Hid (L.app x.e = (0, { L with l := L.l ++ [x.e] })) := app_is13 L x.e HR.out
    rw [HF.out] at hIa ⊢
    have HI : Hid _ := hIa
    have HLn : Hid (({ L with l := L.l ++ [x.e] } : LG).end ≤ 1125899906842624) := by
      show L.ix + ((L.l ++ [x.e]).length : Int) ≤ _
      have : L.end = L.ix + L.l.length := rfl
      rw [List.length_append, List.length_singleton]
      omega
    have HSn : Hid (s.n + 1 ≤ 837723144948) := by have := HH.out.len; show s.n + 1 ≤ 837723144948; omega
    clear hIa
    go_enter Try.func27, Try.ntmps27
    go_wp2_with fail
    generalize w.alloc (.cells x.arr 51) = W1 at *
    refine kl.mono ?_
    rintro _ w2 ⟨rfl, hb2⟩
    have hB2 := HB1.out.trans (hb2.mono HB1.out.size)
    have hbx2 := box_below HBX.out hb2
    have hld := ldE_box _ _ _ _ _ hbx2 rfl
    have hlt2 := box_lt hbx2
    have kf := rchain13_any (w2.alloc (.cells x.arr 51)) L.end L.endT ⟨some ⟨w2.heap.size, 0, none⟩, 1, 1⟩ [x] (hasE13_one w2 x (HX.out.below hB2)) (show 1 ≤ 1099511627776 by decide) hee.1 hee.2
    rw [show [x].map EntV.e = [x.e] from rfl, HR.out] at kf
    have HB3 : Hid (Below w.heap.size w (w2.alloc (.cells x.arr 51))) := below_same13 hB2 _
    have HX3 : Hid ((w2.alloc (.cells x.arr 51)).heap[w.heap.size]? = some (.cells x.arr 51 (0, 0))) := box_below hbx2 ((Below.refl _ _).alloc (Nat.le_refl _) _)
    clear kl hb2 hB2 hbx2
    go_wp2_with fail
    generalize w2.alloc (.cells x.arr 51) = W3 at *
    refine kf.mono ?_
    rintro _ w3 ⟨rfl, hb3⟩
    have hbx3 := box_below HX3.out hb3
    have HB4 : Hid (Below w.heap.size w w3) := HB3.out.trans (hb3.mono HB3.out.size)
    have HB4' : Hid (Below w.heap.size w w3) := HB4.out
    clear kf hld hlt2 HB3 HX3 hb3
    have hL3 := HH.out.below HB4.out
    obtain ⟨-, -, c2, -, -, -⟩ := hL3.cells
    have hlr := hL3.lt
    have hlx3 := box_lt hbx3
    have hld3 := ldE_box w3 _ _ _ _ hbx3 rfl
    have HBX3 : Hid _ := hbx3
    have HL3 : Hid _ := hL3
    have HD : Hid (Below w3.heap.size w3 w3.drew) := below_drew13 w3
    have KH : Hid (∀ W, Below w3.heap.size w3 W → HasR W 13 (.slice s.p s.n s.c) s.n (entsV es) ∧ W.cell? ⟨r, 2, none⟩ = some (.slice s.p s.n s.c) ∧ W.frozen? ⟨r, 2, none⟩ = false ∧ (ldE (.pointer (some ⟨w.heap.size, 0, none⟩))).run Try.prog W = .ok (.agg x.arr) W) := fun W hW => ⟨hasR_of_hasE (HL3.out.has.below hW), (HL3.out.below hW).cells.2.2.1, frozen9 (HL3.out.below hW).obj 2, ldE_box W _ _ _ _ (box_below HBX3.out hW) rfl⟩
    clear hbx3 hL3
    have hld4 : (ldE (.pointer (some ⟨w.heap.size, 0, none⟩))).run Try.prog w3.drew = .ok (.agg x.arr) w3.drew := (KH.out _ HD.out).2.2.2
    have hlda : (ldE (.pointer (some ⟨w.heap.size, 0, none⟩))).run Try.prog (w3.alloc (.cells #[] 51)).drew = .ok (.agg x.arr) (w3.alloc (.cells #[] 51)).drew := (KH.out _ (below_ad13 (below_same13 (Below.refl _ _) _))).2.2.2
    go_wp2_with fail
    go_region_law (first
      | (refine step_row13 (W0 := w3) _ rfl (.tmp 19) (.tmp 23) rfl (by repeat (first | exact HD.out | exact Below.refl _ _ | refine below_same13 ?_ _ | refine below_ad13 ?_)) (.slice (some ⟨_, 0, none⟩) 0 0) _ 0 s.n [] (entsV es) rfl rfl (KH.out _ (by repeat (first | exact HD.out | exact Below.refl _ _ | refine below_same13 ?_ _ | refine below_ad13 ?_))).1 (entsV_cell es) (empty_own13 (by first | exact heap_alloc_new _ _ | exact alloc2_new13 _ _ _ | exact box_below (heap_alloc_new _ _) ((Below.refl _ _).alloc (Nat.le_refl _) _) | exact box_below (heap_alloc_new _ _) (below_ad13 ((Below.refl _ _).alloc (Nat.le_refl _) _))) (by first | exact Nat.le_refl _ | exact Nat.le_succ _)) (by have h := HSn.out; unfold Hid at h; omega) ?_; intro v4 w4 ho4 hb4 hg4; have HG4 : Hid _ := hg4; have HB4 : Hid (Below w3.heap.size w3 w4) := hb4; have hld5 := (KH.out w4 hb4).2.2.2; have HO4 : Hid _ := ho4; clear hg4 hb4 ho4)
      | (refine step_row13 (W0 := w3) _ rfl (.tmp 24) (.tmp 26) rfl (by first | exact HB4.out | exact below_same13 HB4.out _) _ _ (0 + s.n) 1 ([] ++ entsV es) x.arr.toList rfl rfl (lit_has13 (by first | exact heap_alloc_new _ _ | exact (HG4.out.block _ (box_lt (alloc2_new13 _ _ _)) (own_ne13 (by omega) _ _)).trans (alloc2_new13 _ _ _) | exact (HG4.out.block _ (box_lt (box_below (heap_alloc_new _ _) ((Below.refl _ _).alloc (Nat.le_refl _) _))) (own_ne13 (by omega) _ _)).trans (box_below (heap_alloc_new _ _) ((Below.refl _ _).alloc (Nat.le_refl _) _)) | exact (HG4.out.block _ (box_lt (box_below (heap_alloc_new _ _) (below_ad13 ((Below.refl _ _).alloc (Nat.le_refl _) _)))) (own_ne13 (by omega) _ _)).trans (box_below (heap_alloc_new _ _) (below_ad13 ((Below.refl _ _).alloc (Nat.le_refl _) _))))) (earr_cell x) (by first | exact HO4.out | exact row_below HO4.out ((Below.refl _ _).alloc (Nat.le_refl _) _) (Nat.le_refl _)) (by have h := HSn.out; unfold Hid at h; omega) ?_; intro v5 w5 ho5 hb5 hg5; have HB5 : Hid (Below w3.heap.size w3 w5) := hb5; have HO5 : Hid _ := ho5; obtain ⟨p5, n5, c5, rfl⟩ := row_shape11 ho5; have d2 := (KH.out w5 hb5).2.1; have f2 := (KH.out w5 hb5).2.2.1; have hl5 := (HL3.out.below hb5).lt; clear hb5 ho5 hg5))
    all_goals
      have HT5 : Hid _ := rturn_row13 HH.out HX0.out HB4'.out HB5.out HO5.out HI.out HLn.out HSn.out
      clear HB4 HG4 HO4 HO5 hld5
      go_wp2
      go_ret
      exact ⟨rfl, HT5.out⟩
end
end Go.Proofs.Ytephoegcpjdglaa
