import Derived.Test.YtephoegcpjdglaaLjOTo
import Derived.Test.YtephoegcpjdglaaLhGTo
import Derived.Test.YtephoegcpjdglaaRnyTo
import Derived.Test.YtephoegcpjdglaaCmR
import Derived.Test.YtephoegcpjdglaaLjGTo
import Derived.Test.YtephoegcpjdglaaLjT
namespace Go.Proofs.Ytephoegcpjdglaa
open Go.RowKit Go.Shelf
attribute [local go_sem ↓] ldE_exec stE_exec ldE_execI stE_execI ldE_run ldE_box ldC_exec stC_exec ldC_execI stC_execI ldC_run oc_int oc_bool oc_string oc_slice oc_pointer
section
variable {w0 w w' w3 : World} {r r2 : Nat} {G G2 : Nat → Prop} {s s2 : Sl10} {es es2 : List EntV} {L L2 : LG}
theorem RTurns13.of_move (h : RfG w0 w r G s es L) (hb : Below w.heap.size w w3) (h2 : RfG w0 w3 r2 G2 s2 es2 L2) (hG2 : ∀ k, G2 k → w.heap.size ≤ k) (ht : Turn (fun k => k = r) w3 w') (ho : w'.heap[r]? = some (.cells (rfArr L2 s2) 38 (0, 0))) : RTurns13 w0 w r G L2 w' := by
  have hz := hb.size
  have hz2 := ht.size
  have hz0 := h.bel.size
  have hlt := h.lt
  have hT : Turn (fun k => k = r ∨ G k) w w' := (Turn.of_below hb (Nat.le_refl _)).wide ht fun k hk => .inl (.inl hk)
  refine ⟨⟨s2, es2, ho, h2.n, h2.c, h2.nl, fun hc => ?_, h2.all, h.bel.trans (hT.below (fun k hk => (h.own k hk).1) hz0), fun k hk => ?_, h2.map, h2.inv, h2.top, h2.sz⟩, hT⟩
  · obtain ⟨g, o, a, e1, e2, e3, e4⟩ := h2.at' hc
    have h1 := hG2 g e2
    have h3 := (h2.own g (.inr e2)).2
    exact ⟨g, o, a, e1, .inr ⟨h1, by omega⟩, (ht.block g h3 (by omega)).trans e3, e4⟩
  · rcases hk with hk | hk | hk
    · have := h.own k (.inl hk); omega
    · have := h.own k (.inr hk); omega
    · omega

set_option maxRecDepth 100000 in
set_option maxHeartbeats 1000000 in
theorem rrestore13_any (h : RfG w0 w r G s es L) (i t : Int) (hi : inI i) :
    Calls Try.prog 39 #[.pointer (some ⟨r, 0, none⟩), .int .i64 i, .int .i64 t] w fun e w' => e = .returned (.tuple #[]) ∧ RTurns13 w0 w r G (L.restore i t) w' := by
  have HH : Hid (RfG w0 w r G s es L) := h
  by_cases h1 : 1 ≤ i
  · by_cases h2 : i ≤ 1099511627776
    · by_cases h3 : 1 ≤ t
      · have HF : Hid (L.restore i t = ⟨i, t, [], i, i, i⟩) := if_pos ⟨h1, h2, h3⟩
        have HN : Hid (new13 i t [] = some ⟨i, t, [], i, i, i⟩) := by
          have : new13 i t [] = some ⟨i, t, [], i, i, i + (0 : Nat)⟩ := if_pos ⟨by omega, by omega, by omega, rfl⟩
          rw [Hid, this]
          simp
        rw [HF.out]
        have kn := rnew13_any h.bel i t (HasE.nil w) (fun _ h => by cases h) (by decide) hi
        rw [List.map_nil, HN.out] at kn
        clear h
        go_enter Try.func39, Try.ntmps39
        go_wp2_with fail
        refine kn.mono ?_
        rintro _ w3 ⟨v, rfl, hR⟩
        have HB : Hid (Below w.heap.size w w3) := hR.bel
        obtain ⟨r2, rfl, hr2, s2, es2, h2⟩ := hR.yes _ rfl
        clear kn hR
        have H2 : Hid _ := h2
        have hL3 := HH.out.below HB.out
        obtain ⟨d0, d1, d2, d3, d4, d5⟩ := h2.cells
        have hl2 := h2.lt
        have hl3 := hL3.lt
        have hlr := HH.out.lt
        have f0 := frozen9 hL3.obj 0
        have f1 := frozen9 hL3.obj 1
        have f2 := frozen9 hL3.obj 2
        have f3 := frozen9 hL3.obj 3
        have f4 := frozen9 hL3.obj 4
        have f5 := frozen9 hL3.obj 5
        obtain ⟨c0, c1, c2, c3, c4, c5⟩ := hL3.cells
        dsimp only at d0 d1 d2 d3 d4 d5
        have HT : Hid (RTurns13 w0 w r G ⟨i, t, [], i, i, i⟩ ((((((w3.setCell ⟨r, 0, none⟩ (.int .i64 i)).setCell ⟨r, 1, none⟩ (.int .i64 t)).setCell ⟨r, 2, none⟩ (.slice s2.p s2.n s2.c)).setCell ⟨r, 3, none⟩ (.int .i64 i)).setCell ⟨r, 4, none⟩ (.int .i64 i)).setCell ⟨r, 5, none⟩ (.int .i64 i))) := .of_move HH.out HB.out h2 (fun k hk => hk.1) (((((((Turn.refl (fun k => k = r) w3).setCell (p := ⟨r, 0, none⟩) (.inl rfl) (.int .i64 i)).setCell (p := ⟨r, 1, none⟩) (.inl rfl) (.int .i64 t)).setCell (p := ⟨r, 2, none⟩) (.inl rfl) (.slice s2.p s2.n s2.c)).setCell (p := ⟨r, 3, none⟩) (.inl rfl) (.int .i64 i)).setCell (p := ⟨r, 4, none⟩) (.inl rfl) (.int .i64 i)).setCell (p := ⟨r, 5, none⟩) (.inl rfl) (.int .i64 i)) (set_block9 (set_block9 (set_block9 (set_block9 (set_block9 (set_block9 hL3.obj 0 (.int .i64 i) (by show 0 < 6; decide)) 1 (.int .i64 t) (by simp only [Array.size_set]; show 1 < 6; decide)) 2 (.slice s2.p s2.n s2.c) (by simp only [Array.size_set]; show 2 < 6; decide)) 3 (.int .i64 i) (by simp only [Array.size_set]; show 3 < 6; decide)) 4 (.int .i64 i) (by simp only [Array.size_set]; show 4 < 6; decide)) 5 (.int .i64 i) (by simp only [Array.size_set]; show 5 < 6; decide))
        clear h2 hL3
        go_wp2
        go_end0
        exact ⟨rfl, HT.out⟩
      · have HF : Hid (L.restore i t = L) := if_neg (by omega)
        rw [HF.out]
        clear h
        go_enter Try.func39, Try.ntmps39
        go_wp2
        go_end0
        exact ⟨rfl, .of_below HH.out (Below.refl _ _)⟩
    · have HF : Hid (L.restore i t = L) := if_neg (by omega)
      rw [HF.out]
      clear h
      go_enter Try.func39, Try.ntmps39
      go_wp2
      go_end0
      exact ⟨rfl, .of_below HH.out (Below.refl _ _)⟩
  · have HF : Hid (L.restore i t = L) := if_neg (by omega)
    rw [HF.out]
    clear h
    go_enter Try.func39, Try.ntmps39
    go_wp2
    go_end0
    exact ⟨rfl, .of_below HH.out (Below.refl _ _)⟩
end
end Go.Proofs.Ytephoegcpjdglaa

namespace Go.Proofs.Ytephoegcpjdglaa
open Go.RowKit Go.Shelf Go.Maps
attribute [local go_sem ↓] ldE_exec stE_exec ldE_execI stE_execI ldE_run ldE_box ldC_exec stC_exec ldC_execI stC_execI ldC_run oc_int oc_bool oc_string oc_slice oc_pointer
structure RowE (w : World) (p : Option Addr) (n c : Nat) (es : List EntV) : Prop where
  len : es.length = n
  le : n ≤ c
  at' : 0 < n → ∃ b o, p = some ⟨b, o, none⟩ ∧ b < w.heap.size ∧ ∀ i, i < n → ∀ j, j < 13 → w.cell? ⟨b, o + i * 13 + j, none⟩ = (es.getD i noEV).arr[j]?
theorem HasE.rowE {w : World} {s : Sl10} {es : List EntV} (h : HasE w s es) : RowE w s.p s.n s.c es := ⟨h.n, h.c, h.at'⟩
theorem RowE.ld {W : World} {p : Option Addr} {n c : Nat} {es : List EntV} (h : RowE W p n c es) {j : Nat} (hj : j < n) : ∃ b o, p = some ⟨b, o, none⟩ ∧ b < W.heap.size ∧ (ldE (.pointer (some ⟨b, o + j * 13, none⟩))).run Try.prog W = .ok (.agg (es.getD j noEV).arr) W := by
  obtain ⟨b, o, hp, hlt, hc⟩ := h.at' (by omega)
  refine ⟨b, o, hp, hlt, ?_⟩
  refine (run_loadAt_mid W b (o + j * 13) 51 (es.getD j noEV).arr.toList _ (fun i v hi => ?_) Try.underlying51 rfl (by rw [arr_len]; kernel_rfl)).trans (by rw [Array.toArray_toList])
  have hi13 : i < 13 := by
    have := (List.getElem?_eq_some_iff.1 hi).1
    rwa [arr_len] at this
  rw [hc j hj i hi13, ← Array.getElem?_toList]
  exact hi
def bkE (p : Option Addr) (n Bm : Nat) (k : Nat) : Prop := k = Bm ∨ (0 < n ∧ ∃ a, p = some a ∧ a.block = k)
theorem RowE.keepS {S : Nat → Prop} {X Y : World} {p : Option Addr} {n c : Nat} {es : List EntV} (h : RowE X p n c es) (hk : KeepS S X Y) (hS : ∀ a, p = some a → 0 < n → S a.block) : RowE Y p n c es := by
  refine ⟨h.len, h.le, fun h0 => ?_⟩
  obtain ⟨b, o, hp, hb, hc⟩ := h.at' h0
  have hs := hk.same b (hS _ hp h0)
  exact ⟨b, o, hp, Nat.lt_of_lt_of_le hb hk.size, fun i hi j hj => (World.cell?_of_block (a := ⟨b, o + i * 13 + j, none⟩) hs).trans (hc i hi j hj)⟩
theorem backwardE_any (p : Option Addr) (n c : Nat) (w : World) : Calls Try.prog 65 #[.slice p n c] w fun e w' => e = .returned (.func (.func 74) #[] #[.pointer (some ⟨w.heap.size, 0, none⟩)]) ∧ w' = w.alloc (.cells #[.slice p n c] 22) := by
  have hmf : ∀ (fn : Fn) (first cap : Array Value) (w : World), (Instr.makeFunc fn first cap).run Try.prog w = .ok (.func fn first cap) w := fun _ _ _ _ => rfl
  go_enter Try.func65, Try.ntmps65
  go_wp2
  go_ret
  exact ⟨rfl, rfl⟩
def OkE13 (es : List EntV) (pre : List (Nat × EntV)) (x : Nat × EntV) : Prop := pre.length < es.length ∧ x = (es.length - 1 - pre.length, es.getD (es.length - 1 - pre.length) noEV)

set_option maxRecDepth 100000 in
set_option maxHeartbeats 1000000 in
theorem backwardE_seq (p : Option Addr) (c Bm : Nat) (es : List EntV) (w : World) (hv : RowE w p es.length c es) (hl : es.length ≤ 837723144948) (hm : Boxed w Bm 22 (.slice p es.length c)) :
    SeqY Try.prog 74 #[] #[.pointer (some ⟨Bm, 0, none⟩)] (fun x : Nat × EntV => #[.int .i64 (x.1 : Nat), .agg x.2.arr]) (bkE p es.length Bm) (fun _ pre x _ => OkE13 es pre x) (fun pre => pre.length = es.length) w := by
  intro l J Jx W hK hJ hJx hY h0
  have hSb : bkE p es.length Bm Bm := .inl rfl
  have hSp : ∀ a, p = some a → 0 < es.length → bkE p es.length Bm a.block := fun a h1 h2 => .inr ⟨h2, a, h1, rfl⟩
  have hvW := hv.keepS hK hSp
  have hmW := hK.box hm hSb
  have hJ0 := h0 W (Below.refl _ _)
  have hcc : es.length ≤ c := hv.le
  have HV : Hid (RowE W p es.length c es) := hvW
  have HM : Hid (Boxed W Bm 22 (.slice p es.length c)) := hmW
  have HSp : Hid _ := hSp
  have HY : Hid _ := hY
  have y0 : W.cell? ⟨Bm, 0, none⟩ = some (.slice p es.length c) := hmW.cell
  have hlm := hmW.lt
  have Hn : Hid (es.length = es.length) := rfl
  generalize hnn : es.length = n at *
  replace Hn : Hid (es.length = n) := hnn
  clear hnn
  clear hv hm hK h0 hvW hmW hJx hSp hJ hY
  refine (callsIn_wide (n := 3)).1 ?_
  refine callsIn_of_wp Try.func74 rfl trivial ?_ rfl
  simp only [Try.ntmps74, List.size_toArray, List.length_cons, List.length_nil, Nat.reduceAdd, Nat.reduceSub, Array.replicate_succ, Array.replicate_zero, List.push_toArray, List.append_toArray, List.nil_append, List.cons_append]
  have wn : IntKind.i64.wrap ((n : Int) - 1) = (n : Int) - 1 := by rw [IntKind.wrap_i64]; omega
  gi_wp2
  gi_loopw [3] (fun s3 wr => ∃ (pre : List (Nat × EntV)) (q : Int), s3 = .int .i64 q ∧ Hid (q = (n : Int) - 1 - (pre.length : Int)) ∧ pre.length ≤ n ∧ W.heap.size ≤ wr.heap.size ∧ Hid (KeepS (bkE p n Bm) W wr) ∧ J W.heap.size pre wr) (fun s3 _ => (intOf s3 + 1).toNat)
  case atStart => exact ⟨[], _, rfl, by simp [Hid], Nat.zero_le _, Nat.le_refl _, KeepS.refl _ _, hJ0⟩
  case round =>
    clear hJ0 y0
    obtain ⟨pre, q, rfl, HQ, hpl, hz, HK, hJr⟩ := hrel
    have hlb : Bm < wr.heap.size := by omega
    have y0 : wr.cell? ⟨Bm, 0, none⟩ = some (.slice p n c) := (HK.out.box HM.out hSb).cell
    by_cases hend : pre.length = n
    · have hneg : ¬ (0 : Int) ≤ q := by have := HQ.out; omega
      gi_wp2
      refine bodyPost_end (results_none rfl _ _ _) rfl ?_
      exact ⟨⟨_, rfl⟩, W.heap.size, Nat.le_refl _, pre, .inl ⟨hend, hJr⟩⟩
    · obtain ⟨i, hi⟩ : ∃ i : Nat, n - 1 - pre.length = i := ⟨_, rfl⟩
      obtain rfl : q = (i : Int) := by have := HQ.out; omega
      have hvr := HV.out.keepS HK.out HSp.out
      have hin : i < n := by omega
      have wi : IntKind.i64.wrap ((i : Int) - 1) = (i : Int) - 1 := by rw [IntKind.wrap_i64]; omega
      obtain ⟨g, o, hp, hg, hc⟩ := hvr.ld hin
      have HR := HY.out W.heap.size pre (i, es.getD i noEV) wr (Nat.le_refl _) hz ⟨by rw [Hn.out]; omega, by rw [Hn.out, hi]⟩ hJr
      obtain ⟨fn, tmps, assign, body, hy, hR⟩ := YieldAt.wide (m' := 2) HR
      dsimp only at hy
      rw [hp] at y0
      clear HR hvr hi hend hp
      generalize es.getD i noEV = z at *
      gi_wp2
      refine hR.mono ?_
      clear hR hy
      rintro e Z ⟨bb, rfl, hk1, hk2, hb⟩
      have hzZ := hk1.size
      have HKZ : Hid (KeepS (bkE p n Bm) W Z) := HK.out.trans hk1
      clear hk1 hk2
      cases bb with
      | true =>
        rw [if_pos rfl] at hb
        gi_wp2
        go_roundw
        case rel => exact ⟨pre ++ [(i, z)], _, rfl, by rw [Hid, List.length_append, List.length_singleton]; have := HQ.out; omega, by rw [List.length_append, List.length_singleton]; have := HQ.out; omega, by omega, HKZ, hb⟩
        case measure => simp only [intOf]; omega
      | false =>
        rw [if_neg (by simp)] at hb
        gi_wp2
        refine bodyPost_ret (results_none rfl _ _ _) rfl ?_
        exact ⟨⟨_, rfl⟩, W.heap.size, _, Nat.le_refl _, .inr hb⟩
end Go.Proofs.Ytephoegcpjdglaa

namespace Go.Proofs.Ytephoegcpjdglaa
open Go.RowKit Go.Shelf
attribute [local go_sem ↓] ldE_exec stE_exec ldE_execI stE_execI ldE_run ldE_box ldC_exec stC_exec ldC_execI stC_execI ldC_run oc_int oc_bool oc_string oc_slice oc_pointer
theorem conf_snoc13 {e : Ent10} (h : e.k = 3 → e.i ≠ 0) : ∀ l : List Ent10, conf13 (l ++ [e]) = if e.k = 3 then (e.f, e.i) else conf13 l
  | [] => by
    by_cases hk : e.k = 3
    · rw [if_pos hk]
      exact if_pos ⟨rfl, hk⟩
    · rw [if_neg hk]
      exact if_neg fun h => hk h.2
  | x :: l => by
    rw [List.cons_append, conf13, conf_snoc13 h l]
    by_cases hk : e.k = 3
    · rw [if_pos hk, if_neg (fun h2 => h hk h2.1), if_pos hk]
    · rw [if_neg hk, if_neg hk, conf13]
structure Conf13 (w0 w : World) (L : LG) (v : Value) (y : ConfV) (w' : World) : Prop where
  v : v = .tuple #[.agg y.arr, .int .i64 (conf13 L.l).2]
  f : y.f = (conf13 L.l).1
  fits : FitsF w0 y
  bel : Below w.heap.size w w'
section
variable {w0 w w' : World} {r : Nat} {G : Nat → Prop} {s : Sl10} {es : List EntV} {L L' : LG}
set_option maxRecDepth 100000 in
set_option maxHeartbeats 1000000 in
theorem rconf13_any (h : RfG w0 w r G s es L) :
    Calls Try.prog 48 #[.pointer (some ⟨r, 0, none⟩)] w fun e w' => ∃ v y, e = .returned v ∧ Conf13 w0 w L v y w' := by
  have HH : Hid (RfG w0 w r G s es L) := h
  have hbx := heap_alloc_new w (.cells #[.slice none 0 0, .slice none 0 0] 49)
  have hB1 : Below w.heap.size w (w.alloc (.cells #[.slice none 0 0, .slice none 0 0] 49)) := (Below.refl _ w).alloc (Nat.le_refl _) _
  have HB1 : Hid _ := hB1
  have HBX : Hid _ := hbx
  have hL1 := h.below hB1
  obtain ⟨c0, -, c2, -, -, -⟩ := hL1.cells
  have hlr := hL1.lt
  have hlb := box_lt hbx
  have x0 : (w.alloc (.cells #[.slice none 0 0, .slice none 0 0] 49)).cell? ⟨w.heap.size, 0, none⟩ = some (.slice none 0 0) := box_cell hbx 0
  have x1 : (w.alloc (.cells #[.slice none 0 0, .slice none 0 0] 49)).cell? ⟨w.heap.size, 1, none⟩ = some (.slice none 0 0) := box_cell hbx 1
  have fx := frozen9 hbx
  have HE : Hid (HasE (w.alloc (.cells #[.slice none 0 0, .slice none 0 0] 49)) s es) := hL1.has
  have hcc := h.c
  have hsz := h.sz
  have hnn : Hid (es.length = s.n) := h.n
  have wn : IntKind.i64.wrap ((s.n : Int) - 1) = (s.n : Int) - 1 := by rw [IntKind.wrap_i64]; omega
  have H0 : Hid (conf13 L.l = conf13 (L.l.take s.n)) := by rw [Hid, ← h.len, List.take_length]
  have HRow : Hid (∀ k, k < s.n → ∀ (hk : k < L.l.length), (es.getD k noEV).e = L.l[k] ∧ L.l[k].i ≠ 0) := fun k hk hkl => by
    have h1 := entGet13 h.map hkl
    have h2 := (chain_at13 h.inv.row hkl).2
    have h3 := h.inv.x0
    exact ⟨h1, by omega⟩
  have hlen : Hid (L.l.length = s.n) := h.len
  clear h hbx hB1 hL1
  go_enter Try.func48, Try.ntmps48
  go_wp2
  generalize w.alloc (.cells #[.slice none 0 0, .slice none 0 0] 49) = W1 at *
  generalize hbk : w.heap.size = bk at *
  go_loopw [4] (fun s4 wr => ∃ q : Nat, s4 = .int .i64 ((q : Int) - 1) ∧ q ≤ s.n ∧ Hid (conf13 L.l = conf13 (L.l.take q)) ∧ wr = W1) (fun s4 _ => (intOf s4 + 1).toNat)
  case atStart => exact ⟨s.n, rfl, Nat.le_refl _, H0, rfl⟩
  case round =>
    obtain ⟨q, rfl, hq, HC, rfl⟩ := hrel
    by_cases h0 : q = 0
    · subst h0
      have hneg : ¬ (0 : Int) ≤ ((0 : Nat) : Int) - 1 := by omega
      have HF : Hid (conf13 L.l = (noF10, 0)) := HC.out
      clear HC
      have Z : ((wr.setCell ⟨bk, 0, none⟩ (.slice none 0 0)).setCell ⟨bk, 1, none⟩ (.slice none 0 0)).heap[bk]? = some (.cells noFV.arr 49 (0, 0)) := set_block9 (set_block9 HBX.out 0 (.slice none 0 0) (by show 0 < 2; decide)) 1 (.slice none 0 0) (by show 1 < 2; decide)
      have HZ : Hid _ := Z
      have HBz : Hid (Below bk w ((wr.setCell ⟨bk, 0, none⟩ (.slice none 0 0)).setCell ⟨bk, 1, none⟩ (.slice none 0 0))) := (HB1.out.setCell (p := ⟨bk, 0, none⟩) (Nat.le_refl _) _).setCell (p := ⟨bk, 1, none⟩) (Nat.le_refl _) _
      clear Z
      go_wp2
      refine bodyPost_ret (ret_cell9 rfl _ _ bk _ _ _ _ rfl HZ.out Try.underlying49 rfl (by kernel_rfl)) rfl ⟨_, rfl, noFV, ?_, ?_, FitsF.nil w0, ?_⟩
      · rw [HF.out]; rfl
      · rw [HF.out]; rfl
      · rw [hbk]; exact HBz.out
    · obtain ⟨k, hk⟩ : ∃ k, q = k + 1 := ⟨q - 1, by omega⟩
      subst hk
      have hkn : k < s.n := by omega
      have e1 : (((k + 1 : Nat) : Int) - 1) = (k : Int) := by omega
      obtain ⟨g, o, y, hp, hg, hye, hym, -, y0, -, y2, -, -, -, -, -, -, -, -, y11, y12⟩ := HE.out.at hkn
      have hkl : k < L.l.length := by rw [hlen.out]; exact hkn
      obtain ⟨r1, r2⟩ := HRow.out k hkn hkl
      rw [← hye] at r1
      have HC2 : Hid (conf13 L.l = if y.k = 3 then (y.f.f, y.i) else conf13 (L.l.take k)) := by
        rw [Hid, HC.out, List.take_add_one, List.getElem?_eq_getElem hkl, Option.toList_some, conf_snoc13 (fun _ => r2), ← r1]
        rfl
      have HFy : Hid (FitsF w0 y.f) := (HH.out.all y hym).f
      have wk : IntKind.i64.wrap ((k : Int) - 1) = (k : Int) - 1 := by rw [IntKind.wrap_i64]; omega
      rw [e1]
      rw [hp] at c2
      clear hye hym r1 r2 HC e1
      by_cases hk3 : y.k = 3
      · have HF : Hid (conf13 L.l = (y.f.f, y.i)) := by rw [Hid, HC2.out, if_pos hk3]
        rw [hk3] at y2
        clear HC2
        have hgl : g < bk := by
          obtain ⟨g', o', y', hp', hg', -⟩ := HH.out.has.at hkn
          rw [hp] at hp'
          cases hp'
          rw [← hbk]; exact hg'
        have hrl : r < bk := by rw [← hbk]; exact HH.out.lt
        have hgb : ¬ g = bk := by omega
        have hrb : ¬ r = bk := by omega
        have hgb' : ¬ bk = g := by omega
        have hrb' : ¬ bk = r := by omega
        go_wp2_with fail
        have HZ : Hid (((wr.drew.setCell ⟨bk, 0, none⟩ (.slice y.f.u.p y.f.u.n y.f.u.c)).setCell ⟨bk, 1, none⟩ (.slice y.f.v.p y.f.v.n y.f.v.c)).heap[bk]? = some (.cells y.f.arr 49 (0, 0))) := set_block9 (set_block9 (show wr.drew.heap[bk]? = _ from HBX.out) 0 (.slice y.f.u.p y.f.u.n y.f.u.c) (by show 0 < 2; decide)) 1 (.slice y.f.v.p y.f.v.n y.f.v.c) (by show 1 < 2; decide)
        have HBz : Hid (Below bk w ((wr.drew.setCell ⟨bk, 0, none⟩ (.slice y.f.u.p y.f.u.n y.f.u.c)).setCell ⟨bk, 1, none⟩ (.slice y.f.v.p y.f.v.n y.f.v.c))) := ((HB1.out.trans (hbk ▸ (below_drew13 wr).mono HB1.out.size)).setCell (p := ⟨bk, 0, none⟩) (Nat.le_refl _) _).setCell (p := ⟨bk, 1, none⟩) (Nat.le_refl _) _
        go_region_law (fail)
        all_goals
          go_wp2
          refine bodyPost_ret (ret_cell9 rfl _ _ bk _ _ _ _ rfl HZ.out Try.underlying49 rfl (by kernel_rfl)) rfl ⟨_, y.f, rfl, ?_, ?_, HFy.out, ?_⟩
          · rw [HF.out]; rfl
          · rw [HF.out]
          · rw [hbk]; exact HBz.out
      · have HF : Hid (conf13 L.l = conf13 (L.l.take k)) := by rw [Hid, HC2.out, if_neg hk3]
        have hk3' : (y.k == 3) = false := by rw [beq_eq_false_iff_ne]; exact hk3
        go_wp2
        go_roundw
        case rel => exact ⟨k, by go_num, by omega, HF, trivial⟩
        case measure => simp only [intOf]; omega
end
end Go.Proofs.Ytephoegcpjdglaa

namespace Go.Proofs.Ytephoegcpjdglaa
open Go.RowKit Go.Shelf Go.Maps
theorem load_intW (k : Nat) (v : Value) (W : World) (h : W.cell? ⟨k, 0, none⟩ = some v) : (loadVar 3 ⟨k, 0, none⟩).run Try.prog W = .ok v W := by
  simp [loadVar, go_sem, h]
theorem ret_cellsW {fn : Func} {p q : Tmp} {ty : TypeId} (h : fn.results = #[.cell p ty, .cell q 3]) (tmps : Array Value) (w : World) (g k : Nat) (u v : Value)
    (hp : tmps.getD p undef = .pointer (some ⟨g, 0, none⟩)) (hq : tmps.getD q undef = .pointer (some ⟨k, 0, none⟩)) (hg : (loadVar ty ⟨g, 0, none⟩).run Try.prog w = .ok u w) (hk : w.cell? ⟨k, 0, none⟩ = some v) :
    (results fn tmps).run Try.prog w = .ok (.tuple #[u, v]) w := by
  have hp' : tmps[p]?.getD undef = .pointer (some ⟨g, 0, none⟩) := by simpa using hp
  have hq' : tmps[q]?.getD undef = .pointer (some ⟨k, 0, none⟩) := by simpa using hq
  simp [results, h, hp', hq', asAddr, hg, load_intW k v w hk]
theorem OwnsF.same13 {X Y : World} {B : Nat} {x : ConfV} (h : OwnsF X B x) (hs : ∀ g, B ≤ g → g < X.heap.size → Y.heap[g]? = X.heap[g]?) : OwnsF Y B x :=
  ⟨row_same h.u fun g hg => hs g (World.ownsRow.lt h.u g hg).1 (World.ownsRow.lt h.u g hg).2, row_same h.v fun g hg => hs g (World.ownsRow.lt h.v g hg).1 (World.ownsRow.lt h.v g hg).2, h.iu, h.iv, h.lu, h.lv⟩
structure Fin13c (X Y : World) (s0 B : Nat) (x : EntV) : Prop where
  ex : ∃ y : EntV, y.f.f = x.f.f ∧ OwnsF Y B y.f ∧ Y.heap[s0]? = some (.cells y.f.arr 49 (0, 0))
  ix : Boxed Y (s0 + 1) 3 (.int .i64 x.i)
  sz : X.heap.size ≤ Y.heap.size
  os : Below s0 X Y
  same : ∀ k, k < X.heap.size → k ≠ s0 → k ≠ s0 + 1 → Y.heap[k]? = X.heap[k]?

theorem below_putW {w X : World} {s0 r : Nat} (h : Below s0 w X) (hr : s0 ≤ r) (o : Obj) : Below s0 w (X.putObj r o) := ⟨h.os, h.tape, h.output, by simpa using h.size, fun k hk => (World.putObj_heap_other (by omega)).trans (h.block k hk)⟩
theorem fin_mk13 {X Y : World} {s0 B : Nat} {x y : EntV} (h1 : X.heap[s0]? = some (.cells #[.slice none 0 0, .slice none 0 0] 49 (0, 0))) (h2 : Boxed X (s0 + 1) 3 (.int .i64 0)) (hB : s0 + 3 ≤ B) (hBX : B ≤ X.heap.size) (hb : Below X.heap.size X Y) (ho : OwnsF Y X.heap.size y.f) (he : y.f.f = x.f.f) :
    Fin13c X (((Y.setCell ⟨s0, 0, none⟩ (.slice y.f.u.p y.f.u.n y.f.u.c)).setCell ⟨s0, 1, none⟩ (.slice y.f.v.p y.f.v.n y.f.v.c)).setCell ⟨s0 + 1, 0, none⟩ (.int .i64 x.i)) s0 B x := by
  have z1 := (grown_set Y s0 0 (.slice y.f.u.p y.f.u.n y.f.u.c)).size
  have z2 := (grown_set (Y.setCell ⟨s0, 0, none⟩ (.slice y.f.u.p y.f.u.n y.f.u.c)) s0 1 (.slice y.f.v.p y.f.v.n y.f.v.c)).size
  have z3 := (grown_set ((Y.setCell ⟨s0, 0, none⟩ (.slice y.f.u.p y.f.u.n y.f.u.c)).setCell ⟨s0, 1, none⟩ (.slice y.f.v.p y.f.v.n y.f.v.c)) (s0 + 1) 0 (.int .i64 x.i)).size
  have z0 := hb.size
  refine ⟨⟨y, he, (((ho.mono hBX).cell (by omega) _ _).cell (by omega) _ _).cell (by omega) _ _, ?_⟩, ?_, by omega, ?_, fun k hk n1 n2 => ?_⟩
  · exact (Below.heap_setCell _ _ _ _ (by show s0 ≠ s0 + 1; omega)).trans (set_block9 (set_block9 (box_below h1 hb) 0 (.slice y.f.u.p y.f.u.n y.f.u.c) (by show 0 < 2; decide)) 1 (.slice y.f.v.p y.f.v.n y.f.v.c) (by show 1 < 2; decide))
  · have b2 : Boxed Y (s0 + 1) 3 (.int .i64 0) := box_below h2 hb
    have b3 : Boxed ((Y.setCell ⟨s0, 0, none⟩ (.slice y.f.u.p y.f.u.n y.f.u.c)).setCell ⟨s0, 1, none⟩ (.slice y.f.v.p y.f.v.n y.f.v.c)) (s0 + 1) 3 (.int .i64 0) := (Below.heap_setCell _ _ _ _ (by show s0 + 1 ≠ s0; omega)).trans ((Below.heap_setCell _ _ _ _ (by show s0 + 1 ≠ s0; omega)).trans b2)
    exact b3.set _
  · exact ((((show Below s0 X Y from hb.mono (by omega))).setCell (p := ⟨s0, 0, none⟩) (Nat.le_refl _) _).setCell (p := ⟨s0, 1, none⟩) (Nat.le_refl _) _).setCell (p := ⟨s0 + 1, 0, none⟩) (by show s0 ≤ s0 + 1; omega) _
  · exact (Below.heap_setCell _ _ _ _ (by show k ≠ s0 + 1; omega)).trans ((Below.heap_setCell _ _ _ _ (by show k ≠ s0; omega)).trans ((Below.heap_setCell _ _ _ _ (by show k ≠ s0; omega)).trans (hb.block k hk)))

set_option maxRecDepth 100000 in
set_option maxHeartbeats 1000000 in
theorem pconf13_any {w : World} {b : Nat} {G : Nat → Prop} {s : Sl10} {es : List EntV} {g : Int} {L : LG} (h : LogG w b G s es g L) :
    Calls Try.prog 47 #[.pointer (some ⟨b, 0, none⟩)] w fun e w' => ∃ y : ConfV, e = .returned (.tuple #[.agg y.arr, .int .i64 (conf13 L.l).2]) ∧ y.f = (conf13 L.l).1 ∧ FitsF w' y ∧ Below w.heap.size w w' := by
  generalize hs : w.heap.size = s0 at *
  obtain ⟨W2, hW2⟩ : ∃ W2, (w.alloc (.cells #[.slice none 0 0, .slice none 0 0] 49)).alloc (.cells #[.int .i64 0] 3) = W2 := ⟨_, rfl⟩
  have hz2 : W2.heap.size = s0 + 2 := by rw [← hW2]; simp; omega
  have hB2 : Below s0 w W2 := by rw [← hW2]; exact ((Below.refl _ w).alloc (by omega) _).alloc (by simp; omega) _
  have h1 : W2.heap[s0]? = some (.cells #[.slice none 0 0, .slice none 0 0] 49 (0, 0)) := by
    rw [← hW2, ← hs]; exact box_below (heap_alloc_new w _) ((Below.refl _ _).alloc (Nat.le_refl _) _)
  have h2 : Boxed W2 (s0 + 1) 3 (.int .i64 0) := by
    have := Boxed.new (w.alloc (.cells #[.slice none 0 0, .slice none 0 0] 49)) 3 (.int .i64 0)
    rw [World.size_alloc, hs] at this
    rw [← hW2]; exact this
  have hL2 := h.below (w' := W2) (by rw [hs]; exact hB2)
  have kn := none13_any hL2
  obtain ⟨-, -, -, c3, -⟩ := hL2.cells
  have hlb := hL2.lt
  have HL : Hid (LogG w b G s es g L) := h
  have HEs : Hid (HasE W2 s es) := hL2.row.has
  have HGd : Hid (∀ e ∈ es, FewF e.f.f) := h.few
  have hnn : es.length = s.n := h.len.trans h.n
  have hsz : s.n ≤ 837723144948 := h.sz
  have HRow : Hid (∀ k, k < s.n → ∀ (hk : k < L.l.length), (es.getD k noEV).e = L.l[k] ∧ L.l[k].i ≠ 0) := fun k hk hkl => by
    have h1 := entGet13 h.map hkl
    have h2 := (chain_at13 h.inv.row hkl).2
    have h3 := h.inv.x0
    exact ⟨h1, by omega⟩
  have hlen : Hid (L.l.length = s.n) := h.n
  clear h hL2
  refine (callsIn_wide (n := 9)).1 ?_
  refine callsIn_of_wp_marks Try.func47 rfl trivial ?_ rfl
  simp only [Try.ntmps47, List.size_toArray, List.length_cons, List.length_nil, Nat.reduceAdd, Nat.reduceSub, Array.replicate_succ, Array.replicate_zero, List.push_toArray, List.append_toArray, List.nil_append, List.cons_append]
  gi_wp2_with fail
  refine ⟨trivial, (callsIn_wide.2 kn).mono ?_⟩
  rintro e Wn ⟨rfl, hWn⟩
  subst hWn
  have kb := backwardE_any s.p s.n s.c Wn
  rw [hz2] at kb
  clear kn
  gi_wp2_with fail
  refine ⟨trivial, (callsIn_wide.2 kb).mono ?_⟩
  rintro e X3 ⟨rfl, hX3⟩
  have hm3 := Boxed.new Wn 22 (.slice s.p s.n s.c)
  rw [← hX3, hz2] at hm3
  have hb3 : Below Wn.heap.size Wn X3 := by rw [hX3]; exact (Below.refl _ _).alloc (Nat.le_refl _) _
  have hz3 : X3.heap.size = s0 + 3 := by rw [hX3]; simp; omega
  have hB3 : Below s0 w X3 := hB2.trans (hb3.mono (by omega))
  have d1 : X3.heap[s0]? = some (.cells #[.slice none 0 0, .slice none 0 0] 49 (0, 0)) := (hb3.block _ (by omega)).trans h1
  have d2 : Boxed X3 (s0 + 1) 3 (.int .i64 0) := (hb3.block _ (by omega)).trans h2
  have hE3 : HasE X3 s es := HEs.out.below hb3
  have hv3 := hE3.rowE
  rw [← hnn] at hv3 hm3
  have hseq := backwardE_seq s.p s.c (s0 + 2) es X3 hv3 (by omega) hm3
  have hpb : ∀ a : Addr, s.p = some a → 0 < es.length → a.block < s0 := fun a ha h9 => by
    obtain ⟨g', o', hp', hlt', -⟩ := HL.out.row.has.at' (by omega)
    rw [ha] at hp'
    cases hp'
    rw [← hs]; exact hlt'
  have hlt : ∀ k, bkE s.p es.length (s0 + 2) k → k < X3.heap.size := fun k hk => by
    rcases hk with rfl | ⟨h9, a, ha, rfl⟩
    · omega
    · have := hpb a ha h9
      omega
  have HNo : Hid (∀ k, bkE s.p es.length (s0 + 2) k → k ≠ s0 ∧ k ≠ s0 + 1 ∧ k < s0 + 3) := fun k hk => by
    rcases hk with rfl | ⟨h9, a, ha, rfl⟩
    · omega
    · have := hpb a ha h9
      omega
  have HSeq : Hid (SeqY Try.prog 74 #[] #[.pointer (some ⟨s0 + 2, 0, none⟩)] (fun x : Nat × EntV => #[.int .i64 (x.1 : Nat), .agg x.2.arr]) (bkE s.p es.length (s0 + 2)) (fun _ pre x _ => OkE13 es pre x) (fun pre => pre.length = es.length) X3) := hseq
  have HB3 : Hid _ := hB3
  have HFit : Hid (∀ e ∈ es, FitsE w e) := fun e he => HL.out.row.has.all e he
  clear hX3 hB2 hb3 hz2 kb h1 h2 hm3 hv3 hseq hE3 hpb c3
  gi_wp2
  refine range_seqY (m := 7) (gf := 74) (fb := #[]) (lb := #[.pointer (some ⟨s0 + 2, 0, none⟩)]) rfl (enters_of Try.func74 (by kernel_rfl) rfl) HSeq.out hlt (fun _ => rfl)
    (fun B pre X => Hid (conf13 L.l = conf13 (L.l.take (s.n - pre.length)) ∧ pre.length ≤ s.n) ∧ X.heap[s0]? = some (.cells #[.slice none 0 0, .slice none 0 0] 49 (0, 0)) ∧ Boxed X (s0 + 1) 3 (.int .i64 0) ∧ Hid (Below s0 w X) ∧ s0 + 3 ≤ X.heap.size)
    (fun B cd pre X => cd = .ret ∧ ∃ y : ConfV, Hid (y.f = (conf13 L.l).1 ∧ OwnsF X B y) ∧ X.heap[s0]? = some (.cells y.arr 49 (0, 0)) ∧ Boxed X (s0 + 1) 3 (.int .i64 (conf13 L.l).2) ∧ Hid (Below s0 w X) ∧ s0 + 3 ≤ X.heap.size) ?hI ?hIx ?h0
    (fun B pre x a' X => ∃ eb, B ≤ eb ∧ X.heap[eb]? = some (.cells x.2.arr 51 (0, 0)) ∧ a' = { tmps := #[.pointer (some ⟨b, 0, none⟩), undef, .pointer (some ⟨s0, 0, none⟩), .pointer (some ⟨s0 + 1, 0, none⟩), undef, .pointer (some ⟨eb, 0, none⟩), .pointer (some ⟨b, 0, none⟩), .bool false, undef, .pointer (some ⟨b, 0, none⟩), .pointer (some ⟨b, 0, none⟩), .pointer (some ⟨b, 3, none⟩), .slice s.p s.n s.c, .func (.func 74) #[] #[.pointer (some ⟨s0 + 2, 0, none⟩)], .int .i64 (x.1 : Nat), .agg x.2.arr, undef, undef, undef, undef, undef, undef, undef, undef, undef], defers := [] }) ?hOk ?hAx ?hassign ?hbody ?done ?stop
  case hI =>
    rintro B pre X Y hB ⟨i1, i2, i3, i4, i5⟩ ho
    rw [hz3] at ho hB
    exact ⟨i1, ho.block _ _ i2 (.inl (by omega)), ho.block _ _ i3 (.inl (by omega)), i4.out.trans (ho.below (by omega) (by omega)), Nat.le_trans i5 ho.size⟩
  case hIx =>
    rintro B cd pre X Y hB ⟨i0, y, i1, i2, i3, i4, i5⟩ ho
    rw [hz3] at ho hB
    exact ⟨i0, y, ⟨i1.out.1, i1.out.2.same13 fun g hg1 hg2 => ho.same hg2 (.inr hg1)⟩, ho.block _ _ i2 (.inl (by omega)), ho.block _ _ i3 (.inl (by omega)), i4.out.trans (ho.below (by omega) (by omega)), Nat.le_trans i5 ho.size⟩
  case h0 =>
    intro X hX hX2
    rw [hz3] at hX hX2
    refine ⟨⟨?_, Nat.zero_le _⟩, (hX.block _ (by omega)).trans d1, (hX.block _ (by omega)).trans d2, HB3.out.trans (hX.mono (by omega)), by omega⟩
    rw [List.length_nil, Nat.sub_zero, ← hlen.out, List.take_length]
  case hOk => exact fun _ _ _ _ _ _ h _ => h
  case hAx =>
    rintro B pre x a' X Y hB ⟨eb, e1, e2, e3⟩ ho
    exact ⟨eb, e1, ho.block _ _ e2 (.inr e1), e3⟩
  case hassign =>
    rintro l B pre ⟨xi, xe⟩ X K hB hBX hok hK
    have hsem := @Oper.semAt_some l
    have hbE := heap_alloc_new X (.cells xe.arr 51)
    have hBE : Below X.heap.size X (X.alloc (.cells xe.arr 51)) := (Below.refl _ _).alloc (Nat.le_refl _) _
    have HK : Hid _ := hK
    have HbE : Hid _ := hbE
    have HBE : Hid _ := hBE
    clear hK hbE hBE hok
    obtain ⟨xi0, xt, xk, ⟨ck, cs, cq, ckey, cold, cval, cunt, clim⟩, ⟨⟨p1, n1, d0⟩, ⟨q1, m1, d3⟩, f1⟩⟩ := xe
    unfold EntV.arr at *
    dsimp only at *
    gi_wp2
    exact HK.out _ _ HBE.out ⟨X.heap.size, hBX, HbE.out, rfl⟩
  case hbody =>
    rintro l B pre ⟨xi, xe⟩ a' X hB hBX ⟨oka, okb⟩ ⟨i1, i2, i3, i4, i5⟩ ⟨eb, he1, he2, rfl⟩
    have hsem := @Oper.semAt_some l
    rw [hz3] at hB
    simp only [Prod.mk.injEq] at okb
    obtain ⟨-, okx⟩ := okb
    obtain ⟨k, hk⟩ : ∃ k, s.n = pre.length + 1 + k := ⟨s.n - 1 - pre.length, by omega⟩
    have HKq : Hid (s.n = pre.length + 1 + k) := hk
    have hkn : k < s.n := by omega
    have hkl : k < L.l.length := by rw [hlen.out]; exact hkn
    rw [show es.length - 1 - pre.length = k by omega] at okx
    obtain ⟨r1, r2⟩ := HRow.out k hkn hkl
    rw [← okx] at r1
    have HC2 : Hid (conf13 L.l = if xe.k = 3 then (xe.f.f, xe.i) else conf13 (L.l.take k)) := by
      rw [Hid, i1.out.1, show s.n - pre.length = k + 1 by omega, List.take_add_one, List.getElem?_eq_getElem hkl, Option.toList_some, conf_snoc13 (fun _ => r2), ← r1]
      rfl
    have hmem : xe ∈ es := by rw [okx]; exact getD_memE (by rw [hnn]; exact hkn)
    have HBw : Hid (∀ Y, Below X.heap.size X Y → Below w.heap.size w Y) := fun Y hY => by rw [hs]; exact i4.out.trans (hY.mono (by omega))
    have KC : Hid (∀ Y, Below X.heap.size X Y → Calls Try.prog 58 #[.agg xe.arr] Y fun e w' => ∃ y : EntV, e = .returned (.agg #[.int .i64 y.i, .int .i64 y.t, .int .i64 y.k, .int .i64 y.c.k, .int .i64 y.c.s, .int .i64 y.c.q, .string y.c.key, .string y.c.old, .string y.c.val, .string y.c.unt, .int .i64 y.c.lim, .slice y.f.u.p y.f.u.n y.f.u.c, .slice y.f.v.p y.f.v.n y.f.v.c]) ∧ y.e = xe.e ∧ OwnsE w' Y.heap.size y ∧ Below Y.heap.size Y w') := fun Y hY => copyE13_any Y xe ((HFit.out xe hmem).below (HBw.out Y hY)) (HGd.out xe hmem)
    have y2 : X.cell? ⟨eb, 2, none⟩ = some (.int .i64 xe.k) := box_cell he2 2
    have y0 : X.cell? ⟨eb, 0, none⟩ = some (.int .i64 xe.i) := box_cell he2 0
    have hle := box_lt he2
    have I1 : Hid _ := i1
    have I2 : Hid _ := i2
    have I3 : Hid (Boxed X (s0 + 1) 3 (.int .i64 0)) := i3
    have I4 : Hid (Below s0 w X) := i4.out
    have HE2 : Hid _ := he2
    clear i1 i2 i3 i4 okx r1 r2 hk
    by_cases hk3 : xe.k = 3
    · have HF : Hid (conf13 L.l = (xe.f.f, xe.i)) := by rw [Hid, HC2.out, if_pos hk3]
      have hkk : (xe.k == 3) = true := by rw [hk3]; rfl
      have n1 : ¬ eb = s0 := by omega
      have n2 : ¬ eb = s0 + 1 := by omega
      have HEx : Hid (xe.f.f = (conf13 L.l).1 ∧ xe.i = (conf13 L.l).2) := by rw [Hid, HF.out]; exact ⟨rfl, rfl⟩
      obtain ⟨xi0, xt, xk, ⟨ck, cs, cq, ckey, cold, cval, cunt, clim⟩, ⟨⟨p1, n1, d5⟩, ⟨q1, m1, d6⟩, f1⟩⟩ := xe
      have u1 : X.cell? ⟨eb, 1, none⟩ = some (.int .i64 xt) := box_cell HE2.out 1
      have u3 : X.cell? ⟨eb, 3, none⟩ = some (.int .i64 ck) := box_cell HE2.out 3
      have u4 : X.cell? ⟨eb, 4, none⟩ = some (.int .i64 cs) := box_cell HE2.out 4
      have u5 : X.cell? ⟨eb, 5, none⟩ = some (.int .i64 cq) := box_cell HE2.out 5
      have u6 : X.cell? ⟨eb, 6, none⟩ = some (.string ckey) := box_cell HE2.out 6
      have u7 : X.cell? ⟨eb, 7, none⟩ = some (.string cold) := box_cell HE2.out 7
      have u8 : X.cell? ⟨eb, 8, none⟩ = some (.string cval) := box_cell HE2.out 8
      have u9 : X.cell? ⟨eb, 9, none⟩ = some (.string cunt) := box_cell HE2.out 9
      have u10 : X.cell? ⟨eb, 10, none⟩ = some (.int .i64 clim) := box_cell HE2.out 10
      have u11 : X.cell? ⟨eb, 11, none⟩ = some (.slice p1 n1 d5) := box_cell HE2.out 11
      have u12 : X.cell? ⟨eb, 12, none⟩ = some (.slice q1 m1 d6) := box_cell HE2.out 12
      dsimp only at y0 y2 hkk hk3
      subst hk3
      clear hkk
      unfold EntV.arr at KC
      dsimp only at KC
      clear HC2 HF
      have hfd : ∀ (y : EntV) (W : World), (Instr.field 51 (.agg #[.int .i64 y.i, .int .i64 y.t, .int .i64 y.k, .int .i64 y.c.k, .int .i64 y.c.s, .int .i64 y.c.q, .string y.c.key, .string y.c.old, .string y.c.val, .string y.c.unt, .int .i64 y.c.lim, .slice y.f.u.p y.f.u.n y.f.u.c, .slice y.f.v.p y.f.v.n y.f.v.c]) 4).run Try.prog W = .ok (.agg #[.slice y.f.u.p y.f.u.n y.f.u.c, .slice y.f.v.p y.f.v.n y.f.v.c]) W := fun _ _ => by kernel_rfl
      gi_wp2_with fail
      refine wpIn_mono (Q := fun e a Y => e = .normal ∧ Hid (Fin13c X Y s0 B ⟨xi0, xt, 3, ⟨ck, cs, cq, ckey, cold, cval, cunt, clim⟩, ⟨⟨p1, n1, d5⟩, ⟨q1, m1, d6⟩, f1⟩⟩)) ?_ ?_
      · have hmix : Try.prog.follows Departure.mixedOrders = true := by kernel_rfl
        gi_region_with_o (first
          | (refine ⟨trivial, ?_⟩; gi_at_call 58; refine (CallsIn.inRound l (callsIn_wide.2 (KC.out _ (by first | exact Below.refl _ _ | exact below_drew13 X)))).mono ?_; rintro e Y1 ⟨y, rfl, hye, hyo, hyb⟩; have hb1 : Below X.heap.size X Y1 := (by first | exact hyb | exact (below_drew13 X).trans hyb); have z0 : Y1.cell? ⟨s0, 0, none⟩ = some (.slice none 0 0) := box_cell (box_below I2.out hb1) 0; have z1 : Y1.cell? ⟨s0, 1, none⟩ = some (.slice none 0 0) := box_cell (box_below I2.out hb1) 1; have fz := frozen9 (box_below I2.out hb1); have zl := box_lt (box_below I2.out hb1); have z2 : Y1.cell? ⟨s0 + 1, 0, none⟩ = some (.int .i64 0) := box_cell (box_below I3.out hb1) 0; have fz2 := frozen9 (box_below I3.out hb1); have zl2 := box_lt (box_below I3.out hb1); have q0 : Y1.cell? ⟨eb, 0, none⟩ = some (.int .i64 xi0) := box_cell (box_below HE2.out hb1) 0; have ql := box_lt (box_below HE2.out hb1); have HFin : Hid _ := fin_mk13 (x := ⟨xi0, xt, 3, ⟨ck, cs, cq, ckey, cold, cval, cunt, clim⟩, ⟨⟨p1, n1, d5⟩, ⟨q1, m1, d6⟩, f1⟩⟩) (y := y) I2.out I3.out (by omega) hBX hb1 hyo.f (show y.f.f = f1 from congrArg Ent10.f hye); clear hyo hyb hb1))
        all_goals exact ⟨rfl, HFin⟩
      · rintro e a Y ⟨rfl, hY⟩
        gi_wp2
        obtain ⟨⟨y, e1, e2, e3⟩, e4, e5, e6, e7⟩ := hY.out
        refine ⟨⟨e5, fun k hk => ?_⟩, ⟨e5, fun k a1 a2 => ?_⟩, rfl, y.f, ⟨?_, e2⟩, e3, ?_, I4.out.trans e6, by omega⟩
        · have := HNo.out k hk
          exact e7 k (by omega) this.1 this.2.1
        · exact e7 k (by omega) (by omega) (by omega)
        · rw [← HEx.out.1]; exact e1
        · rw [← HEx.out.2]; exact e4
    · have HF : Hid (conf13 L.l = conf13 (L.l.take k)) := by rw [Hid, HC2.out, if_neg hk3]
      have hkk : (xe.k == 3) = false := by rw [beq_eq_false_iff_ne]; exact hk3
      clear HC2
      gi_wp2
      refine ⟨KeepS.refl _ _, Keeps.refl _ _ _, ⟨?_, ?_⟩, I2.out, I3.out, I4.out, i5⟩
      · rw [HF.out, List.length_append, List.length_singleton, show s.n - (pre.length + 1) = k by have h9 := HKq.out; unfold Hid at h9; omega]
      · rw [List.length_append, List.length_singleton]; have h9 := HKq.out; omega
  case done =>
    rintro B pre X hB hF ⟨i1, i2, i3, i4, i5⟩ hD
    rw [hz3] at hD hB ⊢
    have HF : Hid (conf13 L.l = (noF10, 0)) := by
      rw [Hid, i1.out.1, hF, hnn, Nat.sub_self]
      rfl
    have z0 : X.cell? ⟨s0, 0, none⟩ = some (.slice none 0 0) := box_cell i2 0
    have z1 : X.cell? ⟨s0, 1, none⟩ = some (.slice none 0 0) := box_cell i2 1
    have fz := frozen9 i2
    have zl := box_lt i2
    have z2 := i3.cell
    have fz2 := i3.frozen
    have zl2 := i3.lt
    have hob : (((X.setCell ⟨s0, 0, none⟩ (.slice none 0 0)).setCell ⟨s0, 1, none⟩ (.slice none 0 0)).setCell ⟨s0 + 1, 0, none⟩ (.int .i64 0)).heap[s0]? = some (.cells noFV.arr 49 (0, 0)) := (Below.heap_setCell _ _ _ _ (by show s0 ≠ s0 + 1; omega)).trans (set_block9 (set_block9 i2 0 (.slice none 0 0) (by show 0 < 2; decide)) 1 (.slice none 0 0) (by show 1 < 2; decide))
    have hib : Boxed (((X.setCell ⟨s0, 0, none⟩ (.slice none 0 0)).setCell ⟨s0, 1, none⟩ (.slice none 0 0)).setCell ⟨s0 + 1, 0, none⟩ (.int .i64 0)) (s0 + 1) 3 (.int .i64 0) := by
      have b3 : Boxed ((X.setCell ⟨s0, 0, none⟩ (.slice none 0 0)).setCell ⟨s0, 1, none⟩ (.slice none 0 0)) (s0 + 1) 3 (.int .i64 0) := (Below.heap_setCell _ _ _ _ (by show s0 + 1 ≠ s0; omega)).trans ((Below.heap_setCell _ _ _ _ (by show s0 + 1 ≠ s0; omega)).trans i3)
      exact b3.set _
    have hD2 : (((X.setCell ⟨s0, 0, none⟩ (.slice none 0 0)).setCell ⟨s0, 1, none⟩ (.slice none 0 0)).setCell ⟨s0 + 1, 0, none⟩ (.int .i64 0)).heap[s0 + 3]? = some (.deferred (some [])) := (Below.heap_setCell _ _ _ _ (by show s0 + 3 ≠ s0 + 1; omega)).trans ((Below.heap_setCell _ _ _ _ (by show s0 + 3 ≠ s0; omega)).trans ((Below.heap_setCell _ _ _ _ (by show s0 + 3 ≠ s0; omega)).trans hD))
    have HE : Hid (Below s0 w (((X.setCell ⟨s0, 0, none⟩ (.slice none 0 0)).setCell ⟨s0, 1, none⟩ (.slice none 0 0)).setCell ⟨s0 + 1, 0, none⟩ (.int .i64 0))) := ((i4.out.setCell (p := ⟨s0, 0, none⟩) (Nat.le_refl _) _).setCell (p := ⟨s0, 1, none⟩) (Nat.le_refl _) _).setCell (p := ⟨s0 + 1, 0, none⟩) (by show s0 ≤ s0 + 1; omega) _
    have HOb : Hid _ := hob
    have HIb : Hid _ := hib
    have HD2 : Hid _ := hD2
    clear i1 i2 i3 i4 hob hib hD2 hD HSeq hF
    gi_wp2
    refine ⟨by simp, .inl ⟨_, _, rfl, run_takeDeferred HD2.out, ?_⟩⟩
    refine ⟨_, ret_cellsW rfl _ _ s0 (s0 + 1) (.agg noFV.arr) (.int .i64 0) rfl rfl (run_loadVar_row _ _ _ _ _ _ _ ((World.putObj_heap_other (by omega)).trans HOb.out) Try.underlying49 rfl (by kernel_rfl)) (Boxed.cell (t := 3) ((World.putObj_heap_other (by omega)).trans HIb.out)), noFV, ?_, ?_, FitsF.nil _, below_putW HE.out (by omega) _⟩
    · rw [HF.out]
    · rw [HF.out]; rfl
  case stop =>
    rintro B cd pre X hB ⟨rfl, y, i1, i2, i3, i4, i5⟩ hD
    rw [hz3] at hD hB ⊢
    have HE : Hid (Below s0 w (X.putObj (s0 + 3) (.deferred none))) := below_putW i4.out (by omega) _
    have HY : Hid (y.f = (conf13 L.l).1 ∧ FitsF (X.putObj (s0 + 3) (.deferred none)) y) := ⟨i1.out.1, (i1.out.2.same13 fun g hg1 hg2 => World.putObj_heap_other (by omega)).fits⟩
    have HOb : Hid _ := i2
    have HIb : Hid (Boxed X (s0 + 1) 3 (.int .i64 (conf13 L.l).2)) := i3
    have HD2 : Hid _ := hD
    clear i1 i2 i3 i4 hD HSeq
    gi_wp2
    refine ⟨by simp, .inl ⟨_, _, rfl, run_takeDeferred HD2.out, ?_⟩⟩
    exact ⟨_, ret_cellsW rfl _ _ s0 (s0 + 1) (.agg y.arr) (.int .i64 (conf13 L.l).2) rfl rfl (run_loadVar_row _ _ _ _ _ _ _ ((World.putObj_heap_other (by omega)).trans HOb.out) Try.underlying49 rfl (by kernel_rfl)) (Boxed.cell (t := 3) ((World.putObj_heap_other (by omega)).trans HIb.out)), y, rfl, HY.out.1, HY.out.2, HE.out⟩
end Go.Proofs.Ytephoegcpjdglaa

namespace Go.Proofs.Ytephoegcpjdglaa
open Go.RowKit Go.Shelf
attribute [local go_sem ↓] ldE_exec stE_exec ldE_execI stE_execI ldE_run ldE_box ldC_exec stC_exec ldC_execI stC_execI ldC_run oc_int oc_bool oc_string oc_slice oc_pointer
def LG.apps13 (L : LG) : List Ent10 → LG
  | [] => L
  | e :: l => (L.app e).2.apps13 l
theorem LG.apps_snoc13 : ∀ (L : LG) (l : List Ent10) (e : Ent10), L.apps13 (l ++ [e]) = ((L.apps13 l).app e).2
  | _, [], _ => rfl
  | L, x :: l, e => LG.apps_snoc13 (L.app x).2 l e
def LG.done13 (L : LG) (a : ActV13) : LG := if a.k = 0 then L.apps13 (a.es.map EntV.e) else if a.k = 1 then (L.match_ a.n a.m (a.es.map EntV.e)).2 else if a.k = 6 then L.restore a.n a.m else L.acted13 a.k a.n
section
variable {w0 wB w w' : World} {F G H : Nat → Prop} {b r : Nat} {L M : LG}
theorem rmatchD13 (h : Duo13 w0 wB w F b G L r H M) (i t : Int) (sx : Sl10) (xs : List EntV) (hE : HasE w0 sx xs) (hl : M.l.length + sx.n ≤ 837723144948) (htp : M.end + sx.n ≤ 1125899906842624) :
    Calls Try.prog 28 #[.pointer (some ⟨r, 0, none⟩), .int .i64 i, .int .i64 t, .slice sx.p sx.n sx.c] w fun e w' => e = .returned (.tuple #[.int .i64 (M.match_ i t (xs.map EntV.e)).1.1, .bool (M.match_ i t (xs.map EntV.e)).1.2]) ∧ ∃ H', Duo13 w0 wB w' F b G L r H' (M.match_ i t (xs.map EntV.e)).2 := by
  obtain ⟨s, es, hl2⟩ := h.two
  exact (rmatch13_any hl2 i t sx xs hE (by have := hl2.len; omega) htp).mono fun e w' ⟨he, ht⟩ => ⟨he, _, h.right ht⟩
theorem rappendD13 (h : Duo13 w0 wB w F b G L r H M) (x : EntV) (hx : FitsE w0 x) (hl : M.l.length ≤ 1000000000) (ht : M.end + 1 ≤ 1125899906842624) :
    Calls Try.prog 27 #[.pointer (some ⟨r, 0, none⟩), .agg x.arr] w fun e w' => e = .returned (.int .i64 (M.app x.e).1) ∧ ∃ H', Duo13 w0 wB w' F b G L r H' (M.app x.e).2 := by
  obtain ⟨s, es, hl2⟩ := h.two
  exact (rappend13_any hl2 x hx hl ht).mono fun e w' ⟨he, ht⟩ => ⟨he, _, h.right ht⟩
theorem lrestore13 (h : Duo13 w0 wB w F b G L r H M) (i t : Int) (hi : inI i) :
    Calls Try.prog 38 #[.pointer (some ⟨b, 0, none⟩), .int .i64 i, .int .i64 t] w fun e w' => e = .returned (.tuple #[]) ∧ ∃ G', Duo13 w0 wB w' F b G' (L.restore i t) r H M := by
  obtain ⟨s, es, g, hl⟩ := h.one.log
  exact (restore13_any hl i t hi).mono fun e w' ⟨he, ht⟩ => ⟨he, _, h.left ht⟩
theorem rrestoreD13 (h : Duo13 w0 wB w F b G L r H M) (i t : Int) (hi : inI i) :
    Calls Try.prog 39 #[.pointer (some ⟨r, 0, none⟩), .int .i64 i, .int .i64 t] w fun e w' => e = .returned (.tuple #[]) ∧ ∃ H', Duo13 w0 wB w' F b G L r H' (M.restore i t) := by
  obtain ⟨s, es, hl⟩ := h.two
  exact (rrestore13_any hl i t hi).mono fun e w' ⟨he, ht⟩ => ⟨he, _, h.right ht⟩

def Alike13 (w0 wB : World) (F : Nat → Prop) (b r : Nat) (L' : LG) (e : Ending) (w' : World) : Prop :=
  e = .returned (.bool true) ∧ ∃ G' H', Duo13 w0 wB w' F b G' L' r H' L'

set_option maxRecDepth 100000 in
set_option maxHeartbeats 1000000 in
theorem act6_13 (h : Duo13 w0 wB w F b G L r H L) (n m : Int) (hn : inI n) (s : Sl10) :
    Calls Try.prog 9 #[.pointer (some ⟨b, 0, none⟩), .pointer (some ⟨r, 0, none⟩), .agg #[.int .i64 6, .int .i64 n, .int .i64 m, .slice s.p s.n s.c]] w (Alike13 w0 wB F b r (L.restore n m)) := by
  obtain ⟨F', hab, hD, hback⟩ := h.act ⟨6, n, m, s, []⟩
  have hA := heap_alloc_new w (.cells #[.int .i64 6, .int .i64 n, .int .i64 m, .slice s.p s.n s.c] 29)
  have a1 : (w.alloc (.cells #[.int .i64 6, .int .i64 n, .int .i64 m, .slice s.p s.n s.c] 29)).cell? ⟨w.heap.size, 1, none⟩ = some (.int .i64 n) := box_cell hA 1
  have a2 : (w.alloc (.cells #[.int .i64 6, .int .i64 n, .int .i64 m, .slice s.p s.n s.c] 29)).cell? ⟨w.heap.size, 2, none⟩ = some (.int .i64 m) := box_cell hA 2
  have HBk : Hid _ := @hback
  have hlt := box_lt hA
  clear hA h hback
  unfold ActV13.arr at hD HBk
  dsimp only at hD HBk
  have k1 := lrestore13 hD n m hn
  go_enter Try.func9, Try.ntmps9
  go_wp2_with fail
  generalize w.alloc (.cells #[.int .i64 6, .int .i64 n, .int .i64 m, .slice s.p s.n s.c] 29) = W at *
  generalize w.heap.size = ab at *
  refine k1.mono ?_
  rintro _ w1 ⟨rfl, G1, h1⟩
  have k2 := rrestoreD13 h1 n m hn
  have a1' := Duo13.cell h1 hab a1
  have a2' := Duo13.cell h1 hab a2
  have hlt1 : ab < w1.heap.size := Nat.lt_of_lt_of_le hlt h1.sz
  clear k1 a1 a2 hD
  go_wp2_with fail
  refine k2.mono ?_
  rintro _ w2 ⟨rfl, H2, h2⟩
  go_wp2
  go_ret
  exact ⟨rfl, G1, H2, HBk.out h2⟩

set_option maxRecDepth 100000 in
set_option maxHeartbeats 1000000 in
theorem act1_13 (h : Duo13 w0 wB w F b G L r H L) (n m : Int) (hn : inI n) (s : Sl10) (xs : List EntV) (hE : HasE w0 s xs) (hl : L.l.length + s.n ≤ 837723144948) (htp : L.end + s.n ≤ 1125899906842624) :
    Calls Try.prog 9 #[.pointer (some ⟨b, 0, none⟩), .pointer (some ⟨r, 0, none⟩), .agg #[.int .i64 1, .int .i64 n, .int .i64 m, .slice s.p s.n s.c]] w (Alike13 w0 wB F b r (L.match_ n m (xs.map EntV.e)).2) := by
  obtain ⟨F', hab, hD, hback⟩ := h.act ⟨1, n, m, s, []⟩
  have hA := heap_alloc_new w (.cells #[.int .i64 1, .int .i64 n, .int .i64 m, .slice s.p s.n s.c] 29)
  have a1 : (w.alloc (.cells #[.int .i64 1, .int .i64 n, .int .i64 m, .slice s.p s.n s.c] 29)).cell? ⟨w.heap.size, 1, none⟩ = some (.int .i64 n) := box_cell hA 1
  have a2 : (w.alloc (.cells #[.int .i64 1, .int .i64 n, .int .i64 m, .slice s.p s.n s.c] 29)).cell? ⟨w.heap.size, 2, none⟩ = some (.int .i64 m) := box_cell hA 2
  have a3 : (w.alloc (.cells #[.int .i64 1, .int .i64 n, .int .i64 m, .slice s.p s.n s.c] 29)).cell? ⟨w.heap.size, 3, none⟩ = some (.slice s.p s.n s.c) := box_cell hA 3
  have HBk : Hid _ := @hback
  have hlt := box_lt hA
  clear hA h hback
  unfold ActV13.arr at hD HBk
  dsimp only at hD HBk
  have k1 := lmatch13 hD n m s xs hE hn hl htp
  have HK2 : Hid (∀ (w1 : World) (G1 : Nat → Prop), Duo13 w0 (w.alloc (.cells #[.int .i64 1, .int .i64 n, .int .i64 m, .slice s.p s.n s.c] 29)) w1 F' b G1 (L.match_ n m (xs.map EntV.e)).2 r H L → Calls Try.prog 28 #[.pointer (some ⟨r, 0, none⟩), .int .i64 n, .int .i64 m, .slice s.p s.n s.c] w1 fun e w' => e = .returned (.tuple #[.int .i64 (L.match_ n m (xs.map EntV.e)).1.1, .bool (L.match_ n m (xs.map EntV.e)).1.2]) ∧ ∃ H', Duo13 w0 (w.alloc (.cells #[.int .i64 1, .int .i64 n, .int .i64 m, .slice s.p s.n s.c] 29)) w' F' b G1 (L.match_ n m (xs.map EntV.e)).2 r H' (L.match_ n m (xs.map EntV.e)).2) := fun w1 G1 h1 => rmatchD13 h1 n m s xs hE hl htp
  generalize L.match_ n m (xs.map EntV.e) = R at *
  obtain ⟨⟨ri, rb⟩, L'⟩ := R
  dsimp only at k1 HK2 ⊢
  go_enter Try.func9, Try.ntmps9
  go_wp2_with fail
  generalize w.alloc (.cells #[.int .i64 1, .int .i64 n, .int .i64 m, .slice s.p s.n s.c] 29) = W at *
  generalize w.heap.size = ab at *
  refine k1.mono ?_
  rintro _ w1 ⟨rfl, G1, h1⟩
  have k2 := HK2.out w1 G1 h1
  have a1' := Duo13.cell h1 hab a1
  have a2' := Duo13.cell h1 hab a2
  have a3' := Duo13.cell h1 hab a3
  have hlt1 : ab < w1.heap.size := Nat.lt_of_lt_of_le hlt h1.sz
  clear k1 a1 a2 a3 hD HK2
  go_wp2_with fail
  refine k2.mono ?_
  rintro _ w2 ⟨rfl, H2, h2⟩
  clear k2
  go_wp2
  go_ret
  exact ⟨by simp, G1, H2, HBk.out h2⟩
end
end Go.Proofs.Ytephoegcpjdglaa
