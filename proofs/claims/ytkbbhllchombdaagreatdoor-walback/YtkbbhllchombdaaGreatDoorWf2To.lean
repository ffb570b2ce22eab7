import Derived.Test.YtkbbhllchombdaaGreatDoorWe3To
import Derived.Test.YtkbbhllchombdaaGreatDoorWbNTo
namespace Go.Proofs.YtkbbhllchombdaaGreatDoor
open Go.RowKit Go.Shelf Go.Maps
attribute [local go_sem ↓] ldE_exec stE_exec ldE_execI stE_execI ldE_run ldE_box stE_box ldC_exec stC_exec ldC_execI stC_execI ldC_run ldW_exec stW_exec ldW_execI stW_execI ldW_box stW_box ldR_exec stR_exec ldR_execI stR_execI ldT_exec stT_exec ldT_execI stT_execI ldT_box ldU_exec stU_exec ldU_execI stU_execI ldH_exec stH_exec ldH_execI stH_execI ldH_run ldH_box stH_box oc_int oc_bool oc_string oc_slice oc_pointer
attribute [local go_sem ↓] bsE_exec bsE_execI bsE_run bsW_exec bsW_execI bsW_run bdE_exec bdE_execI bdE_run bdH_exec bdH_execI bdH_run bdB_exec bdB_execI bdB_run
theorem SAt.ldT {w : World} {b : Nat} {T : TypeId} {pre post : List Value} {x : StaV} (h : SAt w b T pre x post) : (ldT (.pointer (some ⟨b, pre.length, none⟩))).run Tryz.prog w = .ok (.agg x.arr) w := by
  refine (run_loadAt_mid w b pre.length 82 x.arr.toList _ (fun i v hi => ?_) Tryz.underlying82 rfl (by show _ = some 6; kernel_rfl)).trans (by rw [Array.toArray_toList])
  have hi6 : i < 6 := (List.getElem?_eq_some_iff.1 hi).1
  rw [h.cell hi6, ← hi, Array.getElem?_toList]
theorem SAt.of_box {w : World} {b : Nat} {T : TypeId} {x : StaV} (h : w.heap[b]? = some (.cells x.arr T (0, 0))) : SAt w b T [] x [] := by
  unfold SAt
  rw [List.nil_append, List.append_nil, Array.toArray_toList]
  exact h
theorem hasR_of_hasE {w : World} {s : Sl10} {es : List EntV} (h : HasE w s es) : HasR w 13 (.slice s.p s.n s.c) s.n (entsV es) := by
  refine ⟨s.p, s.c, rfl, h.c, h.nl, by rw [entsV_len, h.n], fun h0 => ?_⟩
  obtain ⟨b, o, hp, hlt, hc⟩ := h.at' h0
  refine ⟨b, o, hp, hlt, fun j u hj => ?_⟩
  have hjl : j < es.length * 13 := by
    have := (List.getElem?_eq_some_iff.1 hj).1
    rwa [entsV_len] at this
  have hn := h.n
  have h2 := hc (j / 13) (by omega) (j % 13) (by omega)
  rw [← entsV_at (by omega) (by omega), show j / 13 * 13 + j % 13 = j by omega, hj] at h2
  rw [show o + j = o + j / 13 * 13 + j % 13 by omega]
  exact h2
theorem setCells_size11 (b : Nat) : ∀ (vs : List Value) (o : Nat) (w : World), (w.setCells b o vs).heap.size = w.heap.size
  | [], _, _ => rfl
  | v :: r, o, w => by
    show ((w.setCell ⟨b, o, none⟩ v).setCells b (o + 1) r).heap.size = _
    rw [setCells_size11 b r (o + 1)]
    simp [World.setCell]
theorem LogS.setSta {w0 wb w : World} {lb d : Nat} {S G : Nat → Prop} {M : DM} {L : LogV} (h : LogS w0 wb w lb d S G M L) (y : StaV) (hy : StaG w G y) : LogS w0 wb (w.setCells lb 2 y.arr.toList) lb d S G M ⟨L.seg, L.last, y, L.dead⟩ := by
  obtain ⟨S', h1, h2, h3⟩ := h.ex
  have hbx := h1.box
  have hS : SAt (w.setCells lb 2 y.arr.toList) lb 145 (logPre d L) y (logPost L) := h1.box.sets 0 y.arr.toList y (by show 0 + 6 ≤ 6; decide) (by rw [tarr_len]; rfl)
  unfold SAt at hbx
  have ht : Turn (fun k => k = lb) w (w.setCells lb 2 y.arr.toList) := (Turn.refl _ _).grown (setCells_grown lb _ _ _) fun k hk => .inl (by cases hk; rfl)
  exact ⟨S', ⟨h1.disk.turn ht (fun k hk e => h1.apart lb h1.gl (by rw [← e]; exact hk)) (fun k e => by rw [e]; exact (h1.own lb h1.gl).1), hS, hy.stay (stay_box ht hbx (by decide)) (stay_box ht hbx (by decide)), h1.gl, h1.apart, fun k hk => ⟨(h1.own k hk).1, Nat.lt_of_lt_of_le (h1.own k hk).2 ht.size⟩, h1.seg, h1.last⟩, h2.wide ht fun k hk => .inl (.inr hk), h3⟩
theorem pfold_few {s : Sta11} {r : Rec11} (h : FewS s) (hk : r.k ≠ 1) : FewS (pfold11 s r).1 := by
  unfold pfold11
  split
  · split
    · exact h
    · intro e he
      have he' : e ∈ (if had11 s.i s.es r.i r.t = true then s.es.drop (goneN11 s.es r.i) else []) := he
      split at he'
      · exact h e (List.mem_of_mem_drop he')
      · cases he'
  · exact h
theorem allB_isB (s : Sta11) : IsB (allB11 s) := by
  unfold allB11
  refine IsB.append (IsB.append (recB_isB11 _) (recB_isB11 _)) fun z hz => ?_
  obtain ⟨a, ha, hz⟩ := List.mem_flatten.1 hz
  obtain ⟨e, -, rfl⟩ := List.mem_map.1 ha
  exact recB_isB11 _ z hz
theorem allB_len (s : Sta11) : (allB11 s).length ≤ 2200000 + s.es.length * 1100000 := by
  unfold allB11
  have h1 := recB_small ⟨3, noE10, noH11, s.i, s.t⟩
  have h2 := recB_small ⟨2, noE10, s.h, 0, 0⟩
  have h3 : ∀ l : List Ent10, ((l.map fun e => recB11 ⟨1, e, noH11, 0, 0⟩).flatten).length ≤ l.length * 1100000 := by
    intro l
    induction l with
    | nil => exact Nat.zero_le _
    | cons e l ih =>
      have := recB_small ⟨1, e, noH11, 0, 0⟩
      rw [List.map_cons, List.flatten_cons, List.length_append, List.length_cons]
      omega
  have := h3 s.es
  rw [List.length_append, List.length_append]
  omega
def recBs (i t : Int) : Rec11 := ⟨3, noE10, noH11, i, t⟩
def compactP (M : DM) (W : WM) (i t : Int) : Nat × WM × DM :=
  if goodR11 (recBs i t) = false ∨ (pfold11 W.s (recBs i t)).2 = false ∨ W.n = 999999999 then (2, W, M)
  else if (rput11 M (allB11 (pfold11 W.s (recBs i t)).1) (W.n + 1)).1 ≠ 0 then ((rput11 M (allB11 (pfold11 W.s (recBs i t)).1) (W.n + 1)).1, W, (rput11 M (allB11 (pfold11 W.s (recBs i t)).1) (W.n + 1)).2)
  else ((drop11 (W.n + 1) (rput11 M (allB11 (pfold11 W.s (recBs i t)).1) (W.n + 1)).2 (segs11 (rput11 M (allB11 (pfold11 W.s (recBs i t)).1) (W.n + 1)).2.listT).reverse).1, ⟨W.seg, W.n + 1, (pfold11 W.s (recBs i t)).1, W.dead⟩, (drop11 (W.n + 1) (rput11 M (allB11 (pfold11 W.s (recBs i t)).1) (W.n + 1)).2 (segs11 (rput11 M (allB11 (pfold11 W.s (recBs i t)).1) (W.n + 1)).2.listT).reverse).2)
theorem okN_rput {c : Nat} {M : DM} (h : M.OkN c) {b : List Int} (hb : isB8 b) (n : Int) : (rput11 M b n).2.OkN (c + 4) := by
  have h1 := h.create newB11
  have h2 : (if b = [] then (M.create newB11).2 else ((M.create newB11).2.append newB11 b).2).OkN (c + 2) := by
    split
    · exact h1.mono (by omega)
    · exact h1.append newB11 hb
  unfold rput11
  generalize (if b = [] then (M.create newB11).2 else ((M.create newB11).2.append newB11 b).2) = Mx at *
  by_cases e1 : (M.create newB11).1 ≠ 0
  · rw [if_pos e1]
    exact h1.mono (by omega)
  rw [if_neg e1]
  by_cases e2 : b ≠ [] ∧ ((M.create newB11).2.append newB11 b).1 ≠ 0
  · rw [if_pos e2]
    exact (h1.append newB11 hb).mono (by omega)
  rw [if_neg e2]
  by_cases e3 : Mx.syncs.1 ≠ 0
  · rw [if_pos e3]
    exact h2.syncs.mono (by omega)
  · rw [if_neg e3]
    exact h2.syncs.rename _ _

set_option maxRecDepth 100000 in
set_option maxHeartbeats 1000000 in
theorem compactW_any {w0 w : World} {lb d c : Nat} {S G : Nat → Prop} {M : DM} {W : WM} {x : StaV} (h : Log11 w0 w lb d S G M ⟨W.seg, W.n, x, W.dead⟩) (hxs : x.s = W.s) (h0 : Gl11 w0) (hO : M.OkN c) (hc : c + 16777300 < 1099511627776) (hn : 1 ≤ W.n ∧ W.n ≤ 999999999) (hxl : x.es.length ≤ 9999) (hxf : FewL x.es) (i t : Int) (hi : inI i) (ht : inI t) (hg : goodR11 (recBs i t) = true) (hk : (pfold11 W.s (recBs i t)).2 = true) (hn9 : W.n ≠ 999999999) :
    Calls Tryz.prog 84 #[.pointer (some ⟨lb, 0, none⟩), .int .i64 i, .int .i64 t] w fun e w' => e = .returned (.int .i64 ((compactP M W i t).1 : Nat)) ∧ LogU w0 w w' lb d (fun k => S k ∨ G k) (compactP M W i t).2.2 (compactP M W i t).2.1 := by
  have hbE := heap_alloc_new w (.cells #[.int .i64 0, .int .i64 0, .int .i64 0, .int .i64 0, .int .i64 0, .int .i64 0, .int .i64 0, .string ⟨#[]⟩, .string ⟨#[]⟩, .string ⟨#[]⟩, .string ⟨#[]⟩, .int .i64 0, .slice none 0 0, .slice none 0 0, .int .i64 0, .int .i64 0, .int .i64 0, .int .i64 0, .int .i64 0] 32)
  have hth1 := there_box hbE 0 19 (Nat.le_refl _)
  have hst1 := stW_arr ⟨3, noEV, noH11, i, t⟩ hth1
  have hbx1 := setW_box ⟨3, noEV, noH11, i, t⟩ hbE rfl
  have hB1 : Below w.heap.size w ((w.alloc (.cells #[.int .i64 0, .int .i64 0, .int .i64 0, .int .i64 0, .int .i64 0, .int .i64 0, .int .i64 0, .string ⟨#[]⟩, .string ⟨#[]⟩, .string ⟨#[]⟩, .string ⟨#[]⟩, .int .i64 0, .slice none 0 0, .slice none 0 0, .int .i64 0, .int .i64 0, .int .i64 0, .int .i64 0, .int .i64 0] 32)).setCells w.heap.size 0 (RecV.arr ⟨3, noEV, noH11, i, t⟩).toList) := setCells_below (Nat.le_refl _) _ _ ((Below.refl _ _).alloc (Nat.le_refl _) _)
  have hz1 : ((w.alloc (.cells #[.int .i64 0, .int .i64 0, .int .i64 0, .int .i64 0, .int .i64 0, .int .i64 0, .int .i64 0, .string ⟨#[]⟩, .string ⟨#[]⟩, .string ⟨#[]⟩, .string ⟨#[]⟩, .int .i64 0, .slice none 0 0, .slice none 0 0, .int .i64 0, .int .i64 0, .int .i64 0, .int .i64 0, .int .i64 0] 32)).setCells w.heap.size 0 (RecV.arr ⟨3, noEV, noH11, i, t⟩).toList).heap.size = w.heap.size + 1 := by
    have := setCells_size11 w.heap.size (RecV.arr ⟨3, noEV, noH11, i, t⟩).toList 0 (w.alloc (.cells #[.int .i64 0, .int .i64 0, .int .i64 0, .int .i64 0, .int .i64 0, .int .i64 0, .int .i64 0, .string ⟨#[]⟩, .string ⟨#[]⟩, .string ⟨#[]⟩, .string ⟨#[]⟩, .int .i64 0, .slice none 0 0, .slice none 0 0, .int .i64 0, .int .i64 0, .int .i64 0, .int .i64 0, .int .i64 0] 32))
    rw [this]; simp
  have hL1 := h.below hB1
  have hldT : (ldT (.pointer (some ⟨lb, 2, none⟩))).run Tryz.prog ((w.alloc (.cells #[.int .i64 0, .int .i64 0, .int .i64 0, .int .i64 0, .int .i64 0, .int .i64 0, .int .i64 0, .string ⟨#[]⟩, .string ⟨#[]⟩, .string ⟨#[]⟩, .string ⟨#[]⟩, .int .i64 0, .slice none 0 0, .slice none 0 0, .int .i64 0, .int .i64 0, .int .i64 0, .int .i64 0, .int .i64 0] 32)).setCells w.heap.size 0 (RecV.arr ⟨3, noEV, noH11, i, t⟩).toList) = .ok (.agg x.arr) ((w.alloc (.cells #[.int .i64 0, .int .i64 0, .int .i64 0, .int .i64 0, .int .i64 0, .int .i64 0, .int .i64 0, .string ⟨#[]⟩, .string ⟨#[]⟩, .string ⟨#[]⟩, .string ⟨#[]⟩, .int .i64 0, .slice none 0 0, .slice none 0 0, .int .i64 0, .int .i64 0, .int .i64 0, .int .i64 0, .int .i64 0] 32)).setCells w.heap.size 0 (RecV.arr ⟨3, noEV, noH11, i, t⟩).toList) := hL1.box.ldT
  have hlb1 := hL1.box.lt
  have hbT := heap_alloc_new ((w.alloc (.cells #[.int .i64 0, .int .i64 0, .int .i64 0, .int .i64 0, .int .i64 0, .int .i64 0, .int .i64 0, .string ⟨#[]⟩, .string ⟨#[]⟩, .string ⟨#[]⟩, .string ⟨#[]⟩, .int .i64 0, .slice none 0 0, .slice none 0 0, .int .i64 0, .int .i64 0, .int .i64 0, .int .i64 0, .int .i64 0] 32)).setCells w.heap.size 0 (RecV.arr ⟨3, noEV, noH11, i, t⟩).toList) (.cells #[.int .i64 0, .int .i64 0, .int .i64 0, .int .i64 0, .int .i64 0, .slice none 0 0] 82)
  rw [hz1] at hbT
  have hth2 := there_box hbT 0 6 (Nat.le_refl _)
  have hst2 := stT_arr 0 x hth2
  have hbx2 := setT_box x hbT rfl
  have hB2 : Below w.heap.size w ((((w.alloc (.cells #[.int .i64 0, .int .i64 0, .int .i64 0, .int .i64 0, .int .i64 0, .int .i64 0, .int .i64 0, .string ⟨#[]⟩, .string ⟨#[]⟩, .string ⟨#[]⟩, .string ⟨#[]⟩, .int .i64 0, .slice none 0 0, .slice none 0 0, .int .i64 0, .int .i64 0, .int .i64 0, .int .i64 0, .int .i64 0] 32)).setCells w.heap.size 0 (RecV.arr ⟨3, noEV, noH11, i, t⟩).toList).alloc (.cells #[.int .i64 0, .int .i64 0, .int .i64 0, .int .i64 0, .int .i64 0, .slice none 0 0] 82)).setCells (w.heap.size + 1) 0 x.arr.toList) := setCells_below (by omega) _ _ (hB1.alloc (by omega) _)
  have hbx1' : ((((w.alloc (.cells #[.int .i64 0, .int .i64 0, .int .i64 0, .int .i64 0, .int .i64 0, .int .i64 0, .int .i64 0, .string ⟨#[]⟩, .string ⟨#[]⟩, .string ⟨#[]⟩, .string ⟨#[]⟩, .int .i64 0, .slice none 0 0, .slice none 0 0, .int .i64 0, .int .i64 0, .int .i64 0, .int .i64 0, .int .i64 0] 32)).setCells w.heap.size 0 (RecV.arr ⟨3, noEV, noH11, i, t⟩).toList).alloc (.cells #[.int .i64 0, .int .i64 0, .int .i64 0, .int .i64 0, .int .i64 0, .slice none 0 0] 82)).setCells (w.heap.size + 1) 0 x.arr.toList).heap[w.heap.size]? = some (.cells (RecV.arr ⟨3, noEV, noH11, i, t⟩) 32 (0, 0)) := by
    have hg9 := setCells_grown (w.heap.size + 1) x.arr.toList 0 (((w.alloc (.cells #[.int .i64 0, .int .i64 0, .int .i64 0, .int .i64 0, .int .i64 0, .int .i64 0, .int .i64 0, .string ⟨#[]⟩, .string ⟨#[]⟩, .string ⟨#[]⟩, .string ⟨#[]⟩, .int .i64 0, .slice none 0 0, .slice none 0 0, .int .i64 0, .int .i64 0, .int .i64 0, .int .i64 0, .int .i64 0] 32)).setCells w.heap.size 0 (RecV.arr ⟨3, noEV, noH11, i, t⟩).toList).alloc (.cells #[.int .i64 0, .int .i64 0, .int .i64 0, .int .i64 0, .int .i64 0, .slice none 0 0] 82))
    refine (hg9.block w.heap.size (by simp; omega) (fun e => by simp only [Option.some.injEq] at e; omega)).trans ?_
    exact (Below.heap_alloc _ _ _ (by omega)).trans hbx1
  have HLog : Hid (Log11 w0 w lb d S G M ⟨W.seg, W.n, x, W.dead⟩) := h
  have HXS : Hid (x.s = W.s) := hxs
  have HG0 : Hid (Gl11 w0) := h0
  have HO : Hid (M.OkN c) := hO
  have HXF : Hid (FewL x.es) := hxf
  have HIT : Hid (inI i ∧ inI t) := ⟨hi, ht⟩
  have HP : Hid (compactP M W i t = if (rput11 M (allB11 (pfold11 W.s (recBs i t)).1) (W.n + 1)).1 ≠ 0 then ((rput11 M (allB11 (pfold11 W.s (recBs i t)).1) (W.n + 1)).1, W, (rput11 M (allB11 (pfold11 W.s (recBs i t)).1) (W.n + 1)).2) else ((drop11 (W.n + 1) (rput11 M (allB11 (pfold11 W.s (recBs i t)).1) (W.n + 1)).2 (segs11 (rput11 M (allB11 (pfold11 W.s (recBs i t)).1) (W.n + 1)).2.listT).reverse).1, ⟨W.seg, W.n + 1, (pfold11 W.s (recBs i t)).1, W.dead⟩, (drop11 (W.n + 1) (rput11 M (allB11 (pfold11 W.s (recBs i t)).1) (W.n + 1)).2 (segs11 (rput11 M (allB11 (pfold11 W.s (recBs i t)).1) (W.n + 1)).2.listT).reverse).2)) := if_neg (by rw [hg, hk]; simp; exact hn9)
  have kg := goodR_any ((((w.alloc (.cells #[.int .i64 0, .int .i64 0, .int .i64 0, .int .i64 0, .int .i64 0, .int .i64 0, .int .i64 0, .string ⟨#[]⟩, .string ⟨#[]⟩, .string ⟨#[]⟩, .string ⟨#[]⟩, .int .i64 0, .slice none 0 0, .slice none 0 0, .int .i64 0, .int .i64 0, .int .i64 0, .int .i64 0, .int .i64 0] 32)).setCells w.heap.size 0 (RecV.arr ⟨3, noEV, noH11, i, t⟩).toList).alloc (.cells #[.int .i64 0, .int .i64 0, .int .i64 0, .int .i64 0, .int .i64 0, .slice none 0 0] 82)).setCells (w.heap.size + 1) 0 x.arr.toList) ⟨3, noEV, noH11, i, t⟩ ⟨in3, (EntG.nil _ (fun _ => True)).fits, ⟨in0, in0, in0⟩, hi, ht⟩
  have hgr : goodR11 (RecV.r ⟨3, noEV, noH11, i, t⟩) = true := hg
  rw [hgr] at kg
  have hld1 := ldW_box _ _ _ _ _ hbx1' rfl
  have hlr1 := box_lt hbx1'
  have HBx1 : Hid _ := hbx1'
  have HBx2 : Hid _ := hbx2
  have HB2 : Hid _ := hB2
  have HPk : Hid ((pfold11 x.s (RecV.r ⟨3, noEV, noH11, i, t⟩)).2 = true) := by rw [Hid, hxs]; exact hk
  have HPs : Hid ((pfold11 x.s (RecV.r ⟨3, noEV, noH11, i, t⟩)).1 = (pfold11 W.s (recBs i t)).1) := by rw [Hid, hxs]; rfl
  generalize (pfold11 W.s (recBs i t)).1 = s' at *
  generalize compactP M W i t = R at *
  clear h hxs h0 hO hxf hi ht hg hk hbE hbx1 hB1 hL1 hbT hbx2 hB2 hbx1' hgr
  go_enter Tryz.func84, Tryz.ntmps84
  go_wp2_with fail
  refine kg.mono ?_
  rintro _ w3 ⟨rfl, hb3⟩
  have HB3 : Hid (Below w.heap.size w w3) := HB2.out.trans (hb3.mono HB2.out.size)
  have HC1 : Hid (w3.heap[w.heap.size]? = some (.cells (RecV.arr ⟨3, noEV, noH11, i, t⟩) 32 (0, 0))) := box_below HBx1.out hb3
  have HC2 : Hid (w3.heap[w.heap.size + 1]? = some (.cells x.arr 82 (0, 0))) := box_below HBx2.out hb3
  clear kg hld1 hldT hlb1 hth1 hst1 hth2 hst2 hlr1 hb3 HBx1 HBx2 HB2 hz1
  generalize ((((w.alloc (.cells #[.int .i64 0, .int .i64 0, .int .i64 0, .int .i64 0, .int .i64 0, .int .i64 0, .int .i64 0, .string ⟨#[]⟩, .string ⟨#[]⟩, .string ⟨#[]⟩, .string ⟨#[]⟩, .int .i64 0, .slice none 0 0, .slice none 0 0, .int .i64 0, .int .i64 0, .int .i64 0, .int .i64 0, .int .i64 0] 32)).setCells w.heap.size 0 (RecV.arr ⟨3, noEV, noH11, i, t⟩).toList).alloc (.cells #[.int .i64 0, .int .i64 0, .int .i64 0, .int .i64 0, .int .i64 0, .slice none 0 0] 82)).setCells (w.heap.size + 1) 0 x.arr.toList) = W2 at *
  generalize ((w.alloc (.cells #[.int .i64 0, .int .i64 0, .int .i64 0, .int .i64 0, .int .i64 0, .int .i64 0, .int .i64 0, .string ⟨#[]⟩, .string ⟨#[]⟩, .string ⟨#[]⟩, .string ⟨#[]⟩, .int .i64 0, .slice none 0 0, .slice none 0 0, .int .i64 0, .int .i64 0, .int .i64 0, .int .i64 0, .int .i64 0] 32)).setCells w.heap.size 0 (RecV.arr ⟨3, noEV, noH11, i, t⟩).toList) = W1 at *
  have hld3 := ldW_box w3 _ _ _ _ HC1.out rfl
  have hl3 := box_lt HC2.out
  have hL3 := HLog.out.grow HB3.out
  have hS3 : SAt w3 (w.heap.size + 1) 82 [] x [] := SAt.of_box HC2.out
  have kf := foldP_any w3 (w.heap.size + 1) 82 [] [] x (more8 G w w3) ⟨3, noEV, noH11, i, t⟩ (by decide) (by decide) hS3 hL3.sta ⟨in3, EntG.nil _ _, ⟨in0, in0, in0⟩, HIT.out.1, HIT.out.2⟩ (fun k hk => (hL3.own k hk).2) (by omega)
  rw [show ([] : List Value).length = 0 from rfl] at kf
  clear hL3 hS3
  go_wp2_with fail
  refine kf.mono ?_
  rintro e4 w4 ⟨rfl, x4, hS4, hx4, hG4, ht4⟩
  rw [HPk.out]
  have ht4' : Turn (fun k => k = w.heap.size + 1) w3 w4 := ht4.mono fun k hk => .inl (hk.elim id fun h => absurd h.1 (by show ¬ (3 : Int) = 1; decide))
  have HB4 : Hid (Below w.heap.size w w4) := HB3.out.trans (ht4'.below (fun k hk => by omega) HB3.out.size)
  have HS4 : Hid (SAt w4 (w.heap.size + 1) 82 [] x4 []) := hS4
  have HX4 : Hid (x4.s = s') := hx4.trans HPs.out
  have HG4 : Hid (StaG w4 (more8 G w w4) x4) := hG4.mono (fun k hk => by
    have hz := ht4.size
    rcases hk with (hk | ⟨h1, h2⟩) | ⟨h1, h2⟩
    · exact .inl hk
    · exact .inr ⟨h1, by omega⟩
    · have := HB3.out.size
      exact .inr ⟨by omega, h2⟩)
  have HF4 : Hid (FewL x4.es) := fun e he => by
    have h1 : e.e ∈ (pfold11 x.s (RecV.r ⟨3, noEV, noH11, i, t⟩)).1.es := by rw [HPs.out, ← HX4.out]; exact List.mem_map.2 ⟨e, he, rfl⟩
    exact pfold_few (r := RecV.r ⟨3, noEV, noH11, i, t⟩) (fun e' he' => by
      obtain ⟨e2, he2, rfl⟩ := List.mem_map.1 he'
      exact HXF.out e2 he2) (by show ¬ (3 : Int) = 1; decide) e.e h1
  have hxl4 : x4.es.length ≤ 10000 := by
    have h1 := pfold_len x.s (RecV.r ⟨3, noEV, noH11, i, t⟩)
    rw [HPs.out, ← HX4.out] at h1
    have e1 : x4.s.es.length = x4.es.length := List.length_map ..
    have e2 : x.s.es.length = x.es.length := List.length_map ..
    omega
  have hL4 := HLog.out.below HB4.out
  have c8 := hL4.cells.2.2.1
  have hlb4 := hL4.box.lt
  have y5 : w4.cell? ⟨w.heap.size + 1, 5, none⟩ = some (.slice x4.w.p x4.w.n x4.w.c) := hS4.cells.2.2.2.2.2
  have f5 := hS4.frozen 5
  have hl4 := hS4.lt
  have hn9' : (W.n == 999999999) = false := by simpa using hn9
  dsimp only at c8
  have hR4 := hasR_of_hasE HG4.out.row.has
  have hn4 : Hid (x4.es.length = x4.w.n) := HG4.out.row.n
  have hnl4 : x4.w.n ≤ 10000 := by rw [← hn4.out]; exact hxl4
  clear kf hld3 hS4 hx4 hG4 ht4 ht4' hL4 HC1 HC2 HB3 HPk HPs hl3
  go_wp2_with (at_builtin; refine ap_row elemE11 _ rfl _ _ rfl w4.heap.size (.slice none 0 0) _ 0 x4.w.n [] (entsV x4.es) rfl rfl hR4 (entsV_cell _) (World.ownsRow_nil _ _ _ _) (by omega) (by omega) (Nat.le_refl _) ?_; intro v5 w5 hown5 hgrow5 hwh5; refine Halt8.out ?_)
  rw [Nat.zero_add, List.nil_append] at hown5
  obtain ⟨p5, n5, c5, rfl⟩ := row_shape11 hown5
  have hg5 : w4.grownBy w5 none := hgrow5
  have hb5 : Below w4.heap.size w4 w5 := ⟨hg5.os, hg5.tape, hg5.output, hg5.size, fun k hk => hg5.block k hk (fun e => by cases e)⟩
  have hS5 : SAt w5 (w.heap.size + 1) 82 [] x4 [] := HS4.out.below hb5
  have q5 : w5.cell? ⟨w.heap.size + 1, 5, none⟩ = some (.slice x4.w.p x4.w.n x4.w.c) := hS5.cells.2.2.2.2.2
  have fr5 := hS5.frozen 5
  have hl5 := hS5.lt
  have hS6 : SAt (w5.setCell ⟨w.heap.size + 1, 5, none⟩ (.slice p5 n5 c5)) (w.heap.size + 1) 82 [] ⟨x4.i, x4.t, x4.h, ⟨p5, n5, c5⟩, x4.es⟩ [] := hS5.set5 ⟨p5, n5, c5⟩ x4.es
  have hB5 : Below w.heap.size w w5 := HB4.out.trans (hb5.mono HB4.out.size)
  have hB6 : Below w.heap.size w (w5.setCell ⟨w.heap.size + 1, 5, none⟩ (.slice p5 n5 c5)) := hB5.setCell (by show w.heap.size ≤ w.heap.size + 1; omega) _
  have hG6 : StaG (w5.setCell ⟨w.heap.size + 1, 5, none⟩ (.slice p5 n5 c5)) (more8 G w (w5.setCell ⟨w.heap.size + 1, 5, none⟩ (.slice p5 n5 c5))) ⟨x4.i, x4.t, x4.h, ⟨p5, n5, c5⟩, x4.es⟩ := by
    have hz6 : (w5.setCell ⟨w.heap.size + 1, 5, none⟩ (.slice p5 n5 c5)).heap.size = w5.heap.size := by simp [World.setCell]
    have hz4 := HB4.out.size
    have hz5 := hb5.size
    have hrow : RowG w5 (more8 G w w5) ⟨p5, n5, c5⟩ x4.es := RowG.of_owns (B := w4.heap.size) (by rw [hn4.out]; exact hown5) (more_new hz4) fun e he => ((HG4.out.row.all e he).stay (.of_below hb5)).mono fun k hk => by
      rcases hk with hk | ⟨h1, h2⟩
      · exact .inl hk
      · exact .inr ⟨h1, by omega⟩
    refine ⟨HG4.out.i, HG4.out.t, HG4.out.h, (hrow.stay (Stay.of_set hS5 (by decide) _) (Stay.of_set hS5 (by decide) _)).mono fun k hk => ?_⟩
    rcases hk with hk | ⟨h1, h2⟩
    · exact .inl hk
    · exact .inr ⟨h1, by omega⟩
  have HS6 : Hid (SAt (w5.setCell ⟨w.heap.size + 1, 5, none⟩ (.slice p5 n5 c5)) (w.heap.size + 1) 82 [] ⟨x4.i, x4.t, x4.h, ⟨p5, n5, c5⟩, x4.es⟩ []) := hS6
  have HB6 : Hid _ := hB6
  have HG6 : Hid _ := hG6
  clear hgrow5 hwh5 hown5 hg5 hb5 hS5 hS6 hB5 hB6 hG6 hR4 HS4 HG4 HB4 y5 f5 c8
  constructor
  go_upto_region 6 with fail
  clear q5 fr5
  have HXy : Hid ((⟨x4.i, x4.t, x4.h, ⟨p5, n5, c5⟩, x4.es⟩ : StaV).s = s') := HX4.out
  have HFy : Hid (FewL (⟨x4.i, x4.t, x4.h, ⟨p5, n5, c5⟩, x4.es⟩ : StaV).es) := HF4.out
  have hyl : (⟨x4.i, x4.t, x4.h, ⟨p5, n5, c5⟩, x4.es⟩ : StaV).es.length ≤ 10000 := hxl4
  clear HX4 HF4 hxl4 hn4 hnl4
  generalize (⟨x4.i, x4.t, x4.h, ⟨p5, n5, c5⟩, x4.es⟩ : StaV) = y at *
  generalize w5.setCell ⟨w.heap.size + 1, 5, none⟩ (.slice p5 n5 c5) = w6 at *
  have hz6 := HB6.out.size
  have hL6 : Log11 w0 w6 lb d S (more8 G w w6) M ⟨W.seg, W.n, x, W.dead⟩ := HLog.out.grow HB6.out
  have hDd : Below w6.heap.size w6 w6.drew := on_drew (Below.refl _ _)
  have hL6d := hL6.below hDd
  have hSd := HS6.out.below hDd
  have hldT0 : (ldT (.pointer (some ⟨w.heap.size + 1, 0, none⟩))).run Tryz.prog w6.drew = .ok (.agg y.arr) w6.drew := hSd.ldT
  have s0 : w6.drew.cell? ⟨lb, 8, none⟩ = some (.int .i64 W.n) ∧ (ldT (.pointer (some ⟨w.heap.size + 1, 0, none⟩))).run Tryz.prog w6.drew = .ok (.agg y.arr) w6.drew := ⟨hL6d.cells.2.2.1, hldT0⟩
  have hGd : StaG w6.drew (more8 G w w6) y := HG6.out.stay (.of_below hDd) (.of_below hDd)
  have ka := allOf_any w6.drew (hL6d.gl11 HG0.out).tab y hGd.i hGd.t hGd.h hGd.row.has HFy.out (by omega)
  rw [HXy.out] at ka
  have HBB : Hid (isB8 (allB11 s')) := isB_of8 (allB_isB s')
  have HAL : Hid ((allB11 s').length ≤ 1099511627776) := by
    have := allB_len s'
    have e1 : s'.es.length = y.es.length := by rw [← HXy.out]; exact List.length_map ..
    rw [Hid]
    omega
  have hlb6 := hL6d.box.lt
  have hls6 := hSd.lt
  have KR : Hid (∀ w7 v, Below w6.drew.heap.size w6.drew w7 → Owns w7 w6.drew.heap.size 5 v (allB11 s') → (w7.cell? ⟨lb, 8, none⟩ = some (.int .i64 W.n) ∧ (ldT (.pointer (some ⟨w.heap.size + 1, 0, none⟩))).run Tryz.prog w7 = .ok (.agg y.arr) w7) ∧ Calls Tryz.prog 153 #[.pointer (some ⟨lb, 0, none⟩), .int .i64 (W.n + 1), v] w7 fun e w' => e = .returned (.int .i64 ((rput11 M (allB11 s') (W.n + 1)).1 : Nat)) ∧ Hid (LogS w0 w7 w' lb d S (more8 (more8 G w w6) w6.drew w7) (rput11 M (allB11 s') (W.n + 1)).2 ⟨W.seg, W.n, x, W.dead⟩ ∧ w'.heap[w.heap.size + 1]? = w7.heap[w.heap.size + 1]? ∧ StaG w' (more8 (more8 G w w6) w6.drew w7) y) ∧ (w'.cell? ⟨lb, 8, none⟩ = some (.int .i64 W.n) ∧ (ldT (.pointer (some ⟨w.heap.size + 1, 0, none⟩))).run Tryz.prog w' = .ok (.agg y.arr) w')) := fun w7 v hb7 ho7 => by
    have hL7 := hL6d.grow hb7
    have hS7 := hSd.below hb7
    refine ⟨⟨hL7.cells.2.2.1, hS7.ldT⟩, ?_⟩
    obtain ⟨p7, c7, rfl⟩ := owns_shape ho7
    have hX7 : HasX w7 (fun k => ¬ (more8 (more8 G w w6) w6.drew w7) k) (.slice p7 (allB11 s').length c7) (allB11 s') := by
      obtain ⟨p', c', hv, a1, a2, a3⟩ := ho7.has
      refine ⟨p', c', hv, a1, a2, fun h9 => ?_⟩
      obtain ⟨b', o', hp', hb', hc'⟩ := a3 h9
      refine ⟨b', o', hp', fun hn => hn (.inr ⟨?_, hb'⟩), hb', hc'⟩
      rcases ho7.2 with ⟨hv2, h8⟩ | ⟨g, cap, cur, hv2, hB9, _⟩
      · omega
      · rw [hv] at hv2
        simp only [Value.slice.injEq] at hv2
        rw [hp'] at hv2
        obtain ⟨hv2, -⟩ := hv2
        cases hv2
        exact hB9
    refine (replaceW_any (LogS.of hL7) HG0.out HO.out (by omega) (W.n + 1) ⟨by omega, by omega⟩ hX7 HBB.out HAL.out).mono ?_
    rintro e w' ⟨r1, r2⟩
    obtain ⟨S8, m1, m2, m3⟩ := id r2.ex
    have hns : ¬ (S (w.heap.size + 1) ∨ w.heap.size + 1 = lb) := by
      intro h9
      rcases h9 with h9 | h9
      · have := (HLog.out.disk.own _ h9).2
        omega
      · have := HLog.out.box.lt
        omega
    have hsame := m2.block (w.heap.size + 1) hS7.lt hns
    have hkeep : ∀ t, t ≠ 145 → Stay (more8 (more8 G w w6) w6.drew w7) t w7 w' := fun t ht9 => ⟨m2.size, fun b a fr hg hb => (m2.block b (box_lt hb) fun h9 => by
      rcases h9 with h9 | h9
      · exact hL7.apart b hg h9
      · subst h9
        have hbx := hL7.box
        unfold SAt at hbx
        rw [hbx] at hb
        simp only [Option.some.injEq, Obj.cells.injEq] at hb
        exact ht9 hb.2.1.symm).trans hb⟩
    exact ⟨r1, ⟨r2, hsame, ((hGd.stay (.of_below hb7) (.of_below hb7)).mono more_in).stay (hkeep _ (by decide)) (hkeep _ (by decide))⟩, r2.cells.2.2.1, (hS7.same hsame).ldT⟩
  have HOR : Hid ((rput11 M (allB11 s') (W.n + 1)).2.OkN (c + 4)) := okN_rput HO.out HBB.out _
  have HSB : Hid (∀ w7, Below w6.drew.heap.size w6.drew w7 → Below w.heap.size w w7 ∧ SAt w7 (w.heap.size + 1) 82 [] y []) := fun w7 hb7 => ⟨(HB6.out.trans (hDd.mono hz6)).trans (hb7.mono hz6), hSd.below hb7⟩
  clear hL6 hDd hL6d hSd hldT0 hGd HBB HAL HS6 HG6 HFy hyl hl4 hl5
  have hw1 : W.n + 1 ≤ 9223372036854775807 := by omega
  have hw0 : -9223372036854775808 ≤ W.n + 1 := by omega
  have hwr : IntKind.i64.wrap (W.n + 1) = W.n + 1 := by rw [IntKind.wrap_i64]; omega
  generalize rput11 M (allB11 s') (W.n + 1) = RP at *
  generalize allB11 s' = ab at *
  go_region_held3 (fun w' => w'.cell? ⟨lb, 8, none⟩ = some (.int .i64 W.n) ∧ (ldT (.pointer (some ⟨w.heap.size + 1, 0, none⟩))).run Tryz.prog w' = .ok (.agg y.arr) w')
    (first | (with_reducible exact s0) | (with_reducible assumption))
    (first
      | (go_at_call 154; (with_reducible refine Calls.mono ka ?_); rintro _ w7 ⟨v7, rfl, ho7, hb7⟩; obtain ⟨e7, kr⟩ := KR.out w7 v7 hb7 ho7)
      | (go_at_call 153; (with_reducible refine Calls.mono kr ?_); rintro _ w8 ⟨rfl, hL8, e8⟩))
  obtain ⟨HB7, hS7⟩ := HSB.out w7 hb7
  have HB7' : Hid (Below w.heap.size w w7) := HB7
  have HGG : Hid (∀ k, (more8 (more8 G w w6) w6.drew w7) k → G k ∨ w.heap.size ≤ k) := fun k hk => by
    rcases hk with (hk | ⟨h9, _⟩) | ⟨h9, _⟩
    · exact .inl hk
    · exact .inr h9
    · have h9' : w6.heap.size ≤ k := h9
      exact .inr (by omega)
  generalize more8 (more8 G w w6) w6.drew w7 = G7 at *
  have HU : Hid (∀ (wz : World) (Mz : DM) (Lz : LogV) (Wz : WM), LogS w0 w7 wz lb d S G7 Mz Lz → Lz.seg = Wz.seg → Lz.last = Wz.n → Lz.dead = Wz.dead → Lz.x.s = Wz.s → LogU w0 w wz lb d (fun k => S k ∨ G k) Mz Wz) := fun wz Mz Lz Wz hz z1 z2 z3 z4 => LogU.of_S2 hz z1 z2 z3 z4 HB7'.out HGG.out HLog.out.gl
  have HL8 : Hid (LogS w0 w7 w8 lb d S G7 RP.2 ⟨W.seg, W.n, x, W.dead⟩) := hL8.out.1
  have HY8 : Hid (StaG w8 G7 y) := hL8.out.2.2
  clear ka kr e7 KR s0 HSB HB7 ho7 hb7
  obtain ⟨re, RM⟩ := RP
  dsimp only at *
  by_cases hre : re = 0
  case neg =>
    have HF : Hid (R = (re, W, RM)) := by rw [Hid, HP.out, if_pos hre]
    have hre' : ((re : Int) != 0) = true := by simpa using hre
    clear HP e8
    go_wp2
    go_ret
    exact ⟨by rw [HF.out]; rfl, by rw [HF.out]; exact HU.out _ _ _ _ HL8.out rfl rfl rfl HXS.out⟩
  subst hre
  have HF : Hid (R = ((drop11 (W.n + 1) RM (segs11 RM.listT).reverse).1, ⟨W.seg, W.n + 1, s', W.dead⟩, (drop11 (W.n + 1) RM (segs11 RM.listT).reverse).2)) := by rw [Hid, HP.out, if_neg (by simp)]
  clear HP
  have hl8 := HL8.out.lt
  have hls8 : w.heap.size + 1 < w8.heap.size := by
    have h1 := hL8.out.2.1
    have h2 := hS7
    unfold SAt at h2
    rw [h2] at h1
    exact box_lt h1
  have hd8 := HL8.out.below (on_drew (Below.refl w8.heap.size w8))
  have hset := hd8.setSta y (HY8.out.stay (.of_below (on_drew (Below.refl _ _))) (.of_below (on_drew (Below.refl _ _))))
  have c8 : w8.cell? ⟨lb, 8, none⟩ = some (.int .i64 W.n) := e8.1
  have ldt8 := e8.2
  have ldt8' : (ldT (.pointer (some ⟨w.heap.size + 1, 0, none⟩))).run Tryz.prog w8.drew = .ok (.agg y.arr) w8.drew := (SAt.same (w := w7) (w' := w8.drew) hS7 hL8.out.2.1).ldT
  have hthL : w8.drew.there lb 2 6 := by
    obtain ⟨S9, m1, _⟩ := hd8.ex
    exact m1.box.there 0 6 (by decide)
  have hstT := stT_arr 2 y hthL
  have c8' : (w8.drew.setCells lb 2 y.arr.toList).cell? ⟨lb, 8, none⟩ = some (.int .i64 W.n) := hset.cells.2.2.1
  have f8' : (w8.drew.setCells lb 2 y.arr.toList).frozen? ⟨lb, 8, none⟩ = false := hset.frozen 8
  have HL9 : Hid (LogS w0 w7 ((w8.drew.setCells lb 2 y.arr.toList).setCell ⟨lb, 8, none⟩ (.int .i64 (W.n + 1))) lb d S G7 RM ⟨W.seg, W.n + 1, y, W.dead⟩) := hset.setLast (W.n + 1) ⟨by omega, by omega⟩
  have hlz8 : lb < (w8.drew.setCells lb 2 y.arr.toList).heap.size := hset.lt
  clear hset hd8 hL8 hS7 e8 HY8 HL8 hlb6 hls6
  go_upto_region 9 with fail
  have KX : Hid (Calls Tryz.prog 155 #[.pointer (some ⟨lb, 0, none⟩)] ((w8.drew.setCells lb 2 y.arr.toList).setCell ⟨lb, 8, none⟩ (.int .i64 (W.n + 1))) fun e w' => e = .returned (.int .i64 (R.1 : Nat)) ∧ LogU w0 w w' lb d (fun k => S k ∨ G k) R.2.2 R.2.1) := by
    refine (removeW_any HL9.out HG0.out HOR.out (by omega)).mono ?_
    rintro e w' ⟨r1, r2⟩
    dsimp only at r1 r2
    exact ⟨by rw [HF.out]; exact r1, by rw [HF.out]; exact HU.out _ _ _ _ r2 rfl rfl rfl HXy.out⟩
  clear HL9 HF HU HOR HXS HO
  go_region_law (fail)
  all_goals
    have kx := KX.out
    clear c8 ldt8 ldt8' hthL hstT c8' f8' KX
    go_wp2_with fail
    refine kx.mono ?_
    rintro _ w9 ⟨rfl, hL9⟩
    clear kx
    go_wp2
    go_ret
    exact ⟨rfl, hL9⟩
section
variable {w0 wb w w' : World} {lb d : Nat} {U V : Nat → Prop} {M : DM} {W : WM}
theorem LogU.mono (h : LogU w0 wb w lb d U M W) (hU : ∀ k, U k → V k) : LogU w0 wb w lb d V M W := by
  obtain ⟨S, G, x, h1, h2, h3, h4⟩ := h.ex
  exact ⟨S, G, x, h1, h2, h3.mono fun k hk => .inl (hU k hk), fun k hk => (h4 k hk).imp (hU k) id⟩
theorem LogU.since {w2 : World} (h : LogU w0 w2 w lb d U M W) (hb : Below wb.heap.size wb w2) (hU : ∀ k, U k → V k ∨ wb.heap.size ≤ k) : LogU w0 wb w lb d V M W := by
  obtain ⟨S, G, x, h1, h2, h3, h4⟩ := h.ex
  refine ⟨S, G, x, h1, h2, (Turn.of_below hb (Nat.le_refl _)).wide h3 hU, fun k hk => ?_⟩
  rcases h4 k hk with h | h
  · exact hU k h
  · have := hb.size
    exact .inr (by omega)
theorem LogU.setDead (h : LogU w0 wb w lb d U M W) (b : Bool) (hlb : U lb ∨ wb.heap.size ≤ lb) : LogU w0 wb (w.setCell ⟨lb, 9, none⟩ (.bool b)) lb d U M ⟨W.seg, W.n, W.s, b⟩ := by
  obtain ⟨S, G, x, h1, h2, h3, h4⟩ := h.ex
  have hb := h1.box
  unfold SAt at hb
  have ht : Turn (fun k => k = lb) w (w.setCell ⟨lb, 9, none⟩ (.bool b)) := (Turn.refl (fun k => k = lb) w).setCell (p := ⟨lb, 9, none⟩) (.inl rfl) _
  refine ⟨S, G, x, ⟨h1.disk.turn ht (fun k hk e => h1.apart lb h1.gl (by rw [← e]; exact hk)) (fun k e => by rw [e]; exact (h1.own lb h1.gl).1), ?_, ?_, h1.gl, h1.apart, fun k hk => ⟨(h1.own k hk).1, Nat.lt_of_lt_of_le (h1.own k hk).2 ht.size⟩, h1.seg, h1.last⟩, h2, h3.wide ht fun k hk => by rw [hk]; exact hlb, h4⟩
  · unfold SAt
    refine (set_block9 hb 9 (.bool b) (by show 9 < 10; decide)).trans ?_
    rfl
  · exact h1.sta.stay (stay_box ht hb (by decide)) (stay_box ht hb (by decide))
theorem LogU.cells (h : LogU w0 wb w lb d U M W) : w.cell? ⟨lb, 0, none⟩ = some (.pointer (some ⟨d, 0, none⟩)) ∧ w.cell? ⟨lb, 1, none⟩ = some (.int .i64 W.seg) ∧ w.cell? ⟨lb, 8, none⟩ = some (.int .i64 W.n) ∧ w.cell? ⟨lb, 9, none⟩ = some (.bool W.dead) := by
  obtain ⟨S, G, x, h1, _⟩ := h.ex
  exact h1.cells
theorem LogU.lt (h : LogU w0 wb w lb d U M W) : lb < w.heap.size := by
  obtain ⟨S, G, x, h1, _⟩ := h.ex
  exact h1.box.lt
theorem LogU.frozen (h : LogU w0 wb w lb d U M W) (i : Nat) : w.frozen? ⟨lb, i, none⟩ = false := by
  obtain ⟨S, G, x, h1, _⟩ := h.ex
  exact h1.box.frozen i
theorem LogU.turn (h : LogU w0 wb w lb d U M W) : Turn U wb w := by
  obtain ⟨S, G, x, _, _, h3, _⟩ := h.ex
  exact h3
theorem LogU.on (h : LogU w0 wb w lb d U M W) : Calls Tryz.prog 58 #[.pointer (some ⟨d, 0, none⟩)] w fun e w' => e = .returned (.bool (!M.off)) ∧ w' = w := by
  obtain ⟨S, G, x, h1, _⟩ := h.ex
  exact on_any h1.disk.at8
end
structure WalAt (w0 w : World) (q lb d : Nat) (U : Nat → Prop) (M : DM) (W : WM) : Prop where
  log : LogU w0 w w lb d U M W
  box : Boxed w q 74 (.pointer (some ⟨lb, 0, none⟩))
  nq : ¬ U q
  ul : U lb
  own : ∀ k, U k → w0.heap.size ≤ k ∧ k < w.heap.size
  lo : w0.heap.size ≤ q
section
variable {w0 w w' : World} {q lb d : Nat} {U : Nat → Prop} {M M' : DM} {W W' : WM}
theorem WalAt.below (h : WalAt w0 w q lb d U M W) (hb : Below w.heap.size w w') : WalAt w0 w' q lb d U M W := by
  obtain ⟨S, G, x, h1, h2, h3, h4⟩ := h.log.ex
  refine ⟨⟨S, G, x, h1.below hb, h2, Turn.refl _ _, fun k hk => ?_⟩, (hb.block q h.box.lt).trans h.box, h.nq, h.ul, fun k hk => ⟨(h.own k hk).1, Nat.lt_of_lt_of_le (h.own k hk).2 hb.size⟩, h.lo⟩
  rcases h4 k hk with h | h
  · exact .inl h
  · have : k < w.heap.size := hk.elim (fun hk => (h1.disk.own k hk).2) (fun hk => (h1.own k hk).2)
    omega
theorem WalAt.next (h : WalAt w0 w q lb d U M W) (hl : LogU w0 w w' lb d U M' W') : WalAt w0 w' q lb d (more8 U w w') M' W' := by
  obtain ⟨S, G, x, h1, h2, h3, h4⟩ := hl.ex
  have hz := h3.size
  have hs : w0.heap.size ≤ w.heap.size := Nat.le_trans h.lo (Nat.le_of_lt h.box.lt)
  refine ⟨⟨S, G, x, h1, h2, Turn.refl _ _, fun k hk => .inl ?_⟩, (h3.block q h.box.lt h.nq).trans h.box, fun hk => ?_, .inl h.ul, fun k hk => ?_, h.lo⟩
  · have : k < w'.heap.size := hk.elim (fun hk => (h1.disk.own k hk).2) (fun hk => (h1.own k hk).2)
    rcases h4 k hk with h | h
    · exact .inl h
    · exact .inr ⟨h, this⟩
  · rcases hk with hk | ⟨h5, _⟩
    · exact h.nq hk
    · have := h.box.lt
      omega
  · rcases hk with hk | ⟨h5, h6⟩
    · exact ⟨(h.own k hk).1, Nat.lt_of_lt_of_le (h.own k hk).2 hz⟩
    · exact ⟨by omega, h6⟩
end
theorem made_any11 {w : World} {q lb : Nat} (h : Boxed w q 74 (.pointer (some ⟨lb, 0, none⟩))) : Calls Tryz.prog 85 #[.pointer (some ⟨q, 0, none⟩)] w fun e w' => e = .returned (.bool true) ∧ w' = w := by
  have c := h.cell
  have hl := h.lt
  go_enter Tryz.func85, Tryz.ntmps85
  go_wp2
  go_ret
  exact ⟨rfl, rfl⟩
theorem do_any11 {w0 w : World} {q lb d : Nat} {U : Nat → Prop} {M : DM} {W : WM} (h : WalAt w0 w q lb d U M W) (hd : W.dead = false) (ho : M.off = false) (fn : Nat) (cap : Array Value) (he : ∀ args W, (callFunc fn args).run Tryz.prog W = .ok (.enter fn args) W) (R : Nat × WM × DM)
    (hk : Calls Tryz.prog fn cap w fun e w' => e = .returned (.int .i64 (R.1 : Nat)) ∧ LogU w0 w w' lb d U R.2.2 R.2.1) :
    Calls Tryz.prog 80 #[.pointer (some ⟨q, 0, none⟩), .func (.func fn) #[] cap] w fun e w' => e = .returned (.int .i64 (R.1 : Nat)) ∧ LogU w0 w w' lb d U R.2.2 ⟨R.2.1.seg, R.2.1.n, R.2.1.s, decide (R.1 = 9)⟩ := by
  have km := made_any11 h.box
  have c0 := h.box.cell
  have hlq := h.box.lt
  obtain ⟨d0, -, -, d9⟩ := h.log.cells
  have hlb := h.log.lt
  have kon := h.log.on
  rw [ho] at kon
  rw [hd] at d9
  clear hd ho
  obtain ⟨re, RW, RM⟩ := R
  dsimp only at *
  go_enter Tryz.func80, Tryz.ntmps80
  go_wp2_with fail
  refine same_mono km ?_
  go_wp2_with fail
  refine same_mono kon ?_
  go_wp2_with fail
  refine hk.mono ?_
  rintro _ w' ⟨rfl, hL⟩
  have HL : Hid (LogU w0 w w' lb d U RM RW) := hL
  have hbq : Boxed w' q 74 (.pointer (some ⟨lb, 0, none⟩)) := (hL.turn.block q h.box.lt h.nq).trans h.box
  have c0' := hbq.cell
  have hlq' := hbq.lt
  have hlb' := hL.lt
  obtain ⟨e0, -, -, e9⟩ := hL.cells
  have hfr := hL.frozen 9
  clear hL hk km kon c0 hlq d0 d9 hlb hbq
  by_cases h9 : re = 9
  · subst h9
    go_wp2
    go_ret
    exact ⟨rfl, HL.setDead true (.inl h.ul)⟩
  · have f9 : (((re : Nat) : Int) == 9) = false := by rw [beq_eq_false_iff_ne]; omega
    go_wp2
    go_ret
    refine ⟨rfl, ?_⟩
    rw [show decide (re = 9) = false from decide_eq_false h9]
    exact HL.setDead false (.inl h.ul)
section
variable {w0 w w' : World} {q lb d : Nat} {U : Nat → Prop} {M : DM} {W : WM}
set_option maxRecDepth 100000 in
set_option maxHeartbeats 1000000 in
theorem save1_any {b1 b2 b3 : Nat} (hq : Boxed w q 74 (.pointer (some ⟨lb, 0, none⟩))) (hh : Hard10) (s : Sl10) (h1 : Boxed w b1 62 (.pointer (some ⟨q, 0, none⟩))) (h2 : w.heap[b2]? = some (.cells hh.arr 30 (0, 0))) (h3 : Boxed w b3 66 (.slice s.p s.n s.c)) (nq : ¬ U q) (n1 : ¬ U b1) (n2 : ¬ U b2) (n3 : ¬ U b3) (R : Nat × WM × DM)
    (hk : Calls Tryz.prog 82 #[.pointer (some ⟨lb, 0, none⟩), .agg hh.arr, .slice s.p s.n s.c] w.drew fun e w' => e = .returned (.int .i64 (R.1 : Nat)) ∧ LogU w0 w.drew w' lb d U R.2.2 R.2.1) :
    Calls Tryz.prog 81 #[.pointer (some ⟨b1, 0, none⟩), .pointer (some ⟨b2, 0, none⟩), .pointer (some ⟨b3, 0, none⟩)] w fun e w' => e = .returned (.int .i64 (R.1 : Nat)) ∧ LogU w0 w w' lb d U R.2.2 R.2.1 := by
  have hld := ldH_box w _ _ _ _ h2 rfl
  have s0 : w.drew.cell? ⟨q, 0, none⟩ = some (.pointer (some ⟨lb, 0, none⟩)) ∧ w.drew.cell? ⟨b1, 0, none⟩ = some (.pointer (some ⟨q, 0, none⟩)) ∧ (ldH (.pointer (some ⟨b2, 0, none⟩))).run Tryz.prog w.drew = .ok (.agg hh.arr) w.drew ∧ w.drew.cell? ⟨b3, 0, none⟩ = some (.slice s.p s.n s.c) := ⟨hq.cell, h1.cell, ldH_box w.drew _ _ _ _ h2 rfl, h3.cell⟩
  have HS : Hid (∀ w', Turn U w.drew w' → w'.cell? ⟨q, 0, none⟩ = some (.pointer (some ⟨lb, 0, none⟩)) ∧ w'.cell? ⟨b1, 0, none⟩ = some (.pointer (some ⟨q, 0, none⟩)) ∧ (ldH (.pointer (some ⟨b2, 0, none⟩))).run Tryz.prog w' = .ok (.agg hh.arr) w' ∧ w'.cell? ⟨b3, 0, none⟩ = some (.slice s.p s.n s.c)) := fun w' ht => by
    have e1 : Boxed w' q 74 (.pointer (some ⟨lb, 0, none⟩)) := (ht.block q hq.lt nq).trans hq
    have e2 : Boxed w' b1 62 (.pointer (some ⟨q, 0, none⟩)) := (ht.block b1 h1.lt n1).trans h1
    have e3 : Boxed w' b3 66 (.slice s.p s.n s.c) := (ht.block b3 h3.lt n3).trans h3
    exact ⟨e1.cell, e2.cell, ldH_box w' _ _ _ _ ((ht.block b2 (box_lt h2) n2).trans h2) rfl, e3.cell⟩
  have hlq := hq.lt
  have hl1 := h1.lt
  have hl2 := box_lt h2
  have hl3 := h3.lt
  clear hq h1 h2 h3 hld
  generalize hh.arr = ha at *
  obtain ⟨re, RW, RM⟩ := R
  dsimp only at *
  go_enter Tryz.func81, Tryz.ntmps81
  go_wp2_with fail
  go_region_held3 (fun w' => w'.cell? ⟨q, 0, none⟩ = some (.pointer (some ⟨lb, 0, none⟩)) ∧ w'.cell? ⟨b1, 0, none⟩ = some (.pointer (some ⟨q, 0, none⟩)) ∧ (ldH (.pointer (some ⟨b2, 0, none⟩))).run Tryz.prog w' = .ok (.agg ha) w' ∧ w'.cell? ⟨b3, 0, none⟩ = some (.slice s.p s.n s.c))
    (first | (with_reducible exact s0) | (with_reducible assumption))
    (first
      | (go_at_call 82; (with_reducible refine Calls.mono hk ?_); rintro _ w1 ⟨rfl, hL1⟩; have e1 := HS.out w1 hL1.turn))
  go_wp2
  go_ret
  exact ⟨rfl, hL1.since (on_drew (Below.refl _ w)) fun k hk => .inl hk⟩
set_option maxRecDepth 100000 in
set_option maxHeartbeats 1000000 in
theorem compact1_any {b1 b2 b3 : Nat} (hq : Boxed w q 74 (.pointer (some ⟨lb, 0, none⟩))) (i t : Int) (h1 : Boxed w b1 62 (.pointer (some ⟨q, 0, none⟩))) (h2 : Boxed w b2 3 (.int .i64 i)) (h3 : Boxed w b3 3 (.int .i64 t)) (nq : ¬ U q) (n1 : ¬ U b1) (n2 : ¬ U b2) (n3 : ¬ U b3) (R : Nat × WM × DM)
    (hk : Calls Tryz.prog 84 #[.pointer (some ⟨lb, 0, none⟩), .int .i64 i, .int .i64 t] w.drew fun e w' => e = .returned (.int .i64 (R.1 : Nat)) ∧ LogU w0 w.drew w' lb d U R.2.2 R.2.1) :
    Calls Tryz.prog 83 #[.pointer (some ⟨b1, 0, none⟩), .pointer (some ⟨b2, 0, none⟩), .pointer (some ⟨b3, 0, none⟩)] w fun e w' => e = .returned (.int .i64 (R.1 : Nat)) ∧ LogU w0 w w' lb d U R.2.2 R.2.1 := by
  have s0 : w.drew.cell? ⟨q, 0, none⟩ = some (.pointer (some ⟨lb, 0, none⟩)) ∧ w.drew.cell? ⟨b1, 0, none⟩ = some (.pointer (some ⟨q, 0, none⟩)) ∧ w.drew.cell? ⟨b2, 0, none⟩ = some (.int .i64 i) ∧ w.drew.cell? ⟨b3, 0, none⟩ = some (.int .i64 t) := ⟨hq.cell, h1.cell, h2.cell, h3.cell⟩
  have HS : Hid (∀ w', Turn U w.drew w' → w'.cell? ⟨q, 0, none⟩ = some (.pointer (some ⟨lb, 0, none⟩)) ∧ w'.cell? ⟨b1, 0, none⟩ = some (.pointer (some ⟨q, 0, none⟩)) ∧ w'.cell? ⟨b2, 0, none⟩ = some (.int .i64 i) ∧ w'.cell? ⟨b3, 0, none⟩ = some (.int .i64 t)) := fun w' ht => by
    have e1 : Boxed w' q 74 (.pointer (some ⟨lb, 0, none⟩)) := (ht.block q hq.lt nq).trans hq
    have e2 : Boxed w' b1 62 (.pointer (some ⟨q, 0, none⟩)) := (ht.block b1 h1.lt n1).trans h1
    have e3 : Boxed w' b2 3 (.int .i64 i) := (ht.block b2 h2.lt n2).trans h2
    have e4 : Boxed w' b3 3 (.int .i64 t) := (ht.block b3 h3.lt n3).trans h3
    exact ⟨e1.cell, e2.cell, e3.cell, e4.cell⟩
  have hlq := hq.lt
  have hl1 := h1.lt
  have hl2 := h2.lt
  have hl3 := h3.lt
  clear hq h1 h2 h3
  obtain ⟨re, RW, RM⟩ := R
  dsimp only at *
  go_enter Tryz.func83, Tryz.ntmps83
  go_wp2_with fail
  go_region_held3 (fun w' => w'.cell? ⟨q, 0, none⟩ = some (.pointer (some ⟨lb, 0, none⟩)) ∧ w'.cell? ⟨b1, 0, none⟩ = some (.pointer (some ⟨q, 0, none⟩)) ∧ w'.cell? ⟨b2, 0, none⟩ = some (.int .i64 i) ∧ w'.cell? ⟨b3, 0, none⟩ = some (.int .i64 t))
    (first | (with_reducible exact s0) | (with_reducible assumption))
    (first
      | (go_at_call 84; (with_reducible refine Calls.mono hk ?_); rintro _ w1 ⟨rfl, hL1⟩; have e1 := HS.out w1 hL1.turn))
  go_wp2
  go_ret
  exact ⟨rfl, hL1.since (on_drew (Below.refl _ w)) fun k hk => .inl hk⟩
end
section
variable {w0 w w' : World} {q lb d c : Nat} {U : Nat → Prop} {M : DM} {W : WM}
theorem WalAt.log11 (h : WalAt w0 w q lb d U M W) : ∃ S G x, Log11 w0 w lb d S G M ⟨W.seg, W.n, x, W.dead⟩ ∧ x.s = W.s ∧ ∀ k, S k ∨ G k → U k := by
  obtain ⟨S, G, x, h1, h2, h3, h4⟩ := h.log.ex
  refine ⟨S, G, x, h1, h2, fun k hk => ?_⟩
  rcases h4 k hk with h | h
  · exact h
  · have : k < w.heap.size := hk.elim (fun hk => (h1.disk.own k hk).2) (fun hk => (h1.own k hk).2)
    omega
theorem WalAt.fresh (h : WalAt w0 w q lb d U M W) {k : Nat} (hk : w.heap.size ≤ k) : ¬ U k := fun hu => by
  have := (h.own k hu).2
  omega
def WM.did (e : Nat) (W : WM) : WM := ⟨W.seg, W.n, W.s, decide (e = 9)⟩
set_option maxRecDepth 100000 in
set_option maxHeartbeats 1000000 in
theorem saveT_any (h : WalAt w0 w q lb d U M W) (h0 : Gl11 w0) (hO : M.OkN c) (hc : c + 4 < 1099511627776) (hd : W.dead = false) (ho : M.off = false) (hn : 1 ≤ W.n ∧ W.n ≤ 999999999) (hxl : W.s.es.length ≤ 100000000) (hh : Hard10) (hfh : FitsH hh) (s : Sl10) (es : List EntV) (hE : HasE w s es) (hf : FewL es) (hl : es.length ≤ 9999) (hg : ∀ r ∈ recs11 hh W.s (es.map EntV.e), goodR11 r = true) :
    Calls Tryz.prog 27 #[.pointer (some ⟨q, 0, none⟩), .agg hh.arr, .slice s.p s.n s.c] w fun e w' => e = .returned (.int .i64 ((saveP M W (recs11 hh W.s (es.map EntV.e))).1 : Nat)) ∧ LogU w0 w w' lb d U (saveP M W (recs11 hh W.s (es.map EntV.e))).2.2 ((saveP M W (recs11 hh W.s (es.map EntV.e))).2.1.did (saveP M W (recs11 hh W.s (es.map EntV.e))).1) := by
  have hmf : ∀ (fn : Fn) (first cap : Array Value) (w : World), (Instr.makeFunc fn first cap).run Tryz.prog w = .ok (.func fn first cap) w := fun _ _ _ _ => rfl
  have hB : Below w.heap.size w (((w.alloc (.cells #[.pointer (some ⟨q, 0, none⟩)] 62)).alloc (.cells hh.arr 30)).alloc (.cells #[.slice s.p s.n s.c] 66)) := (((Below.refl _ w).alloc (Nat.le_refl _) _).alloc (by simp) _).alloc (by simp; omega) _
  have e1 : Boxed (((w.alloc (.cells #[.pointer (some ⟨q, 0, none⟩)] 62)).alloc (.cells hh.arr 30)).alloc (.cells #[.slice s.p s.n s.c] 66)) w.heap.size 62 (.pointer (some ⟨q, 0, none⟩)) := box_below (heap_alloc_new w _) (((Below.refl _ _).alloc (Nat.le_refl _) _).alloc (by simp) _)
  have e2 : (((w.alloc (.cells #[.pointer (some ⟨q, 0, none⟩)] 62)).alloc (.cells hh.arr 30)).alloc (.cells #[.slice s.p s.n s.c] 66)).heap[w.heap.size + 1]? = some (.cells hh.arr 30 (0, 0)) := by
    have := box_below (heap_alloc_new (w.alloc (.cells #[.pointer (some ⟨q, 0, none⟩)] 62)) (.cells hh.arr 30)) ((Below.refl _ _).alloc (Nat.le_refl _) (.cells #[.slice s.p s.n s.c] 66))
    rwa [World.size_alloc] at this
  have e3 : Boxed (((w.alloc (.cells #[.pointer (some ⟨q, 0, none⟩)] 62)).alloc (.cells hh.arr 30)).alloc (.cells #[.slice s.p s.n s.c] 66)) (w.heap.size + 2) 66 (.slice s.p s.n s.c) := by
    have := heap_alloc_new ((w.alloc (.cells #[.pointer (some ⟨q, 0, none⟩)] 62)).alloc (.cells hh.arr 30)) (.cells #[.slice s.p s.n s.c] 66)
    rwa [World.size_alloc, World.size_alloc] at this
  have hz : (((w.alloc (.cells #[.pointer (some ⟨q, 0, none⟩)] 62)).alloc (.cells hh.arr 30)).alloc (.cells #[.slice s.p s.n s.c] 66)).heap.size = w.heap.size + 3 := by simp
  have c1 := e1.cell
  have K : ∀ W3, Below w.heap.size w W3 → Boxed W3 w.heap.size 62 (.pointer (some ⟨q, 0, none⟩)) → W3.heap[w.heap.size + 1]? = some (.cells hh.arr 30 (0, 0)) → Boxed W3 (w.heap.size + 2) 66 (.slice s.p s.n s.c) → Calls Tryz.prog 80 #[.pointer (some ⟨q, 0, none⟩), .func (.func 81) #[] #[.pointer (some ⟨w.heap.size, 0, none⟩), .pointer (some ⟨w.heap.size + 1, 0, none⟩), .pointer (some ⟨w.heap.size + 2, 0, none⟩)]] W3 fun e w' => e = .returned (.int .i64 ((saveP M W (recs11 hh W.s (es.map EntV.e))).1 : Nat)) ∧ LogU w0 w w' lb d U (saveP M W (recs11 hh W.s (es.map EntV.e))).2.2 ((saveP M W (recs11 hh W.s (es.map EntV.e))).2.1.did (saveP M W (recs11 hh W.s (es.map EntV.e))).1) := fun W3 hB e1 e2 e3 => by
    have h3 := h.below hB
    have hB' : Below w.heap.size w W3.drew := on_drew hB
    have h3' := h.below hB'
    obtain ⟨S, G, x, g1, g2, g3⟩ := h3'.log11
    have hxl' : x.es.length ≤ 100000000 := by
      have : x.es.length = W.s.es.length := by rw [← g2]; unfold StaV.s; simp
      omega
    have k := saveW_any g1 g2 h0 hO hc hn hxl' hh hfh s es (hE.below hB') hf hl hg
    have k1 := save1_any (w0 := w0) (d := d) (U := U) h3.box hh s e1 e2 e3 h.nq (h.fresh (Nat.le_refl _)) (h.fresh (by omega)) (h.fresh (by omega)) (saveP M W (recs11 hh W.s (es.map EntV.e))) (k.mono fun e w' he => ⟨he.1, he.2.mono g3⟩)
    refine (do_any11 h3 hd ho 81 _ (fun _ _ => rfl) _ k1).mono fun e w' he => ⟨he.1, ?_⟩
    exact he.2.since hB fun k hk => .inl hk
  have k := K _ hB e1 e2 e3
  clear K e1 e2 e3 h h0 hO hE hf hg hB hd ho hfh
  generalize saveP M W (recs11 hh W.s (es.map EntV.e)) = R at *
  generalize hh.arr = ha at *
  obtain ⟨sp, sn, sc⟩ := s
  dsimp only at *
  go_enter Tryz.func27, Tryz.ntmps27
  go_wp2_with fail
  refine k.mono ?_
  rintro _ w9 ⟨rfl, hL⟩
  go_wp2
  go_ret
  exact ⟨rfl, hL⟩
set_option maxRecDepth 100000 in
set_option maxHeartbeats 1000000 in
theorem compactT_any (h : WalAt w0 w q lb d U M W) (h0 : Gl11 w0) (hO : M.OkN c) (hc : c + 16777300 < 1099511627776) (hd : W.dead = false) (ho : M.off = false) (hn : 1 ≤ W.n ∧ W.n ≤ 999999999) (hxl : W.s.es.length ≤ 9999) (hxf : FewS W.s) (i t : Int) (hi : inI i) (ht : inI t) (hg : goodR11 (recBs i t) = true) (hk : (pfold11 W.s (recBs i t)).2 = true) (hn9 : W.n ≠ 999999999) :
    Calls Tryz.prog 28 #[.pointer (some ⟨q, 0, none⟩), .int .i64 i, .int .i64 t] w fun e w' => e = .returned (.int .i64 ((compactP M W i t).1 : Nat)) ∧ LogU w0 w w' lb d U (compactP M W i t).2.2 ((compactP M W i t).2.1.did (compactP M W i t).1) := by
  have hmf : ∀ (fn : Fn) (first cap : Array Value) (w : World), (Instr.makeFunc fn first cap).run Tryz.prog w = .ok (.func fn first cap) w := fun _ _ _ _ => rfl
  have hB : Below w.heap.size w (((w.alloc (.cells #[.pointer (some ⟨q, 0, none⟩)] 62)).alloc (.cells #[.int .i64 i] 3)).alloc (.cells #[.int .i64 t] 3)) := (((Below.refl _ w).alloc (Nat.le_refl _) _).alloc (by simp) _).alloc (by simp; omega) _
  have e1 : Boxed (((w.alloc (.cells #[.pointer (some ⟨q, 0, none⟩)] 62)).alloc (.cells #[.int .i64 i] 3)).alloc (.cells #[.int .i64 t] 3)) w.heap.size 62 (.pointer (some ⟨q, 0, none⟩)) := box_below (heap_alloc_new w _) (((Below.refl _ _).alloc (Nat.le_refl _) _).alloc (by simp) _)
  have e2 : (((w.alloc (.cells #[.pointer (some ⟨q, 0, none⟩)] 62)).alloc (.cells #[.int .i64 i] 3)).alloc (.cells #[.int .i64 t] 3)).heap[w.heap.size + 1]? = some (.cells #[.int .i64 i] 3 (0, 0)) := by
    have := box_below (heap_alloc_new (w.alloc (.cells #[.pointer (some ⟨q, 0, none⟩)] 62)) (.cells #[.int .i64 i] 3)) ((Below.refl _ _).alloc (Nat.le_refl _) (.cells #[.int .i64 t] 3))
    rwa [World.size_alloc] at this
  have e3 : Boxed (((w.alloc (.cells #[.pointer (some ⟨q, 0, none⟩)] 62)).alloc (.cells #[.int .i64 i] 3)).alloc (.cells #[.int .i64 t] 3)) (w.heap.size + 2) 3 (.int .i64 t) := by
    have := heap_alloc_new ((w.alloc (.cells #[.pointer (some ⟨q, 0, none⟩)] 62)).alloc (.cells #[.int .i64 i] 3)) (.cells #[.int .i64 t] 3)
    rwa [World.size_alloc, World.size_alloc] at this
  have hz : (((w.alloc (.cells #[.pointer (some ⟨q, 0, none⟩)] 62)).alloc (.cells #[.int .i64 i] 3)).alloc (.cells #[.int .i64 t] 3)).heap.size = w.heap.size + 3 := by simp
  have c1 := e1.cell
  have XF : ∀ x : StaV, x.s = W.s → FewL x.es := fun x hx => FewS.of (by rw [hx]; exact hxf)
  have K : ∀ W3, Below w.heap.size w W3 → Boxed W3 w.heap.size 62 (.pointer (some ⟨q, 0, none⟩)) → W3.heap[w.heap.size + 1]? = some (.cells #[.int .i64 i] 3 (0, 0)) → Boxed W3 (w.heap.size + 2) 3 (.int .i64 t) → Calls Tryz.prog 80 #[.pointer (some ⟨q, 0, none⟩), .func (.func 83) #[] #[.pointer (some ⟨w.heap.size, 0, none⟩), .pointer (some ⟨w.heap.size + 1, 0, none⟩), .pointer (some ⟨w.heap.size + 2, 0, none⟩)]] W3 fun e w' => e = .returned (.int .i64 ((compactP M W i t).1 : Nat)) ∧ LogU w0 w w' lb d U (compactP M W i t).2.2 ((compactP M W i t).2.1.did (compactP M W i t).1) := fun W3 hB e1 e2 e3 => by
    have h3 := h.below hB
    have hB' : Below w.heap.size w W3.drew := on_drew hB
    have h3' := h.below hB'
    obtain ⟨S, G, x, g1, g2, g3⟩ := h3'.log11
    have hxl' : x.es.length ≤ 9999 := by
      have : x.es.length = W.s.es.length := by rw [← g2]; unfold StaV.s; simp
      omega
    have hxf' : FewL x.es := XF x g2
    have k := compactW_any g1 g2 h0 hO hc hn hxl' hxf' i t hi ht hg hk hn9
    have k1 := compact1_any (w0 := w0) (d := d) (U := U) h3.box i t e1 e2 e3 h.nq (h.fresh (Nat.le_refl _)) (h.fresh (by omega)) (h.fresh (by omega)) (compactP M W i t) (k.mono fun e w' he => ⟨he.1, he.2.mono g3⟩)
    refine (do_any11 h3 hd ho 83 _ (fun _ _ => rfl) _ k1).mono fun e w' he => ⟨he.1, ?_⟩
    exact he.2.since hB fun k hk => .inl hk
  have k := K _ hB e1 e2 e3
  clear K e1 e2 e3 h h0 hO hg hk hB hd ho hxf hxl XF
  generalize compactP M W i t = R at *
  go_enter Tryz.func28, Tryz.ntmps28
  go_wp2_with fail
  refine k.mono ?_
  rintro _ w9 ⟨rfl, hL⟩
  go_wp2
  go_ret
  exact ⟨rfl, hL⟩
end
section
variable {w0 w w' : World} {q lb d c : Nat} {U : Nat → Prop} {M : DM} {W : WM}
set_option maxRecDepth 100000 in
set_option maxHeartbeats 1000000 in
theorem stateT_any (h : WalAt w0 w q lb d U M W) (hxl : W.s.es.length ≤ 100000000) (hxf : FewS W.s) :
    Calls Tryz.prog 31 #[.pointer (some ⟨q, 0, none⟩)] w fun e w' => ∃ y : StaV, e = .returned (.agg y.arr) ∧ y.s = W.s ∧ OwnsEs w' (w.heap.size + 1) y.w y.es ∧ Below w.heap.size w w' := by
  have hB : Below w.heap.size w (w.alloc (.cells #[.int .i64 0, .int .i64 0, .int .i64 0, .int .i64 0, .int .i64 0, .slice none 0 0] 82)) := (Below.refl _ w).alloc (Nat.le_refl _) _
  have hbx := heap_alloc_new w (.cells #[.int .i64 0, .int .i64 0, .int .i64 0, .int .i64 0, .int .i64 0, .slice none 0 0] 82)
  have hz : (w.alloc (.cells #[.int .i64 0, .int .i64 0, .int .i64 0, .int .i64 0, .int .i64 0, .slice none 0 0] 82)).heap.size = w.heap.size + 1 := by simp
  have h1 := h.below hB
  have km := made_any11 h1.box
  have c0 := h1.box.cell
  have hlq := h1.box.lt
  have hlb := h1.log.lt
  obtain ⟨S, G, x, g1, g2, g3⟩ := h1.log11
  have hld : (ldT (.pointer (some ⟨lb, 2, none⟩))).run Tryz.prog (w.alloc (.cells #[.int .i64 0, .int .i64 0, .int .i64 0, .int .i64 0, .int .i64 0, .slice none 0 0] 82)) = .ok (.agg x.arr) (w.alloc (.cells #[.int .i64 0, .int .i64 0, .int .i64 0, .int .i64 0, .int .i64 0, .slice none 0 0] 82)) := g1.box.ldT
  have hxl' : x.es.length = W.s.es.length := by rw [← g2]; unfold StaV.s; simp
  have k := copyS_any (w.alloc (.cells #[.int .i64 0, .int .i64 0, .int .i64 0, .int .i64 0, .int .i64 0, .slice none 0 0] 82)) x g1.sta.row.has (fun e he => (FewS.of (by rw [g2]; exact hxf) e he).1) (by omega)
  rw [hz] at k
  have HX : Hid (x.s = W.s) := g2
  have HB : Hid (Below w.heap.size w (w.alloc (.cells #[.int .i64 0, .int .i64 0, .int .i64 0, .int .i64 0, .int .i64 0, .slice none 0 0] 82))) := hB
  have HBX : Hid ((w.alloc (.cells #[.int .i64 0, .int .i64 0, .int .i64 0, .int .i64 0, .int .i64 0, .slice none 0 0] 82)).heap[w.heap.size]? = some (.cells #[.int .i64 0, .int .i64 0, .int .i64 0, .int .i64 0, .int .i64 0, .slice none 0 0] 82 (0, 0))) := hbx
  have HZ : Hid ((w.alloc (.cells #[.int .i64 0, .int .i64 0, .int .i64 0, .int .i64 0, .int .i64 0, .slice none 0 0] 82)).heap.size = w.heap.size + 1) := hz
  clear h h1 g1 g2 g3 hxl hxf hxl' hB hbx
  go_enter Tryz.func31, Tryz.ntmps31
  go_wp2_with fail
  refine same_mono km ?_
  go_wp2_with fail
  refine k.mono ?_
  rintro _ w2 ⟨y, rfl, hy, hO, hb2⟩
  have hb2' : Below (w.alloc (.cells #[.int .i64 0, .int .i64 0, .int .i64 0, .int .i64 0, .int .i64 0, .slice none 0 0] 82)).heap.size (w.alloc (.cells #[.int .i64 0, .int .i64 0, .int .i64 0, .int .i64 0, .int .i64 0, .slice none 0 0] 82)) w2 := by rw [HZ.out]; exact hb2
  have hbx2 := box_below HBX.out hb2'
  have hth := there_box hbx2 0 6 (Nat.le_refl _)
  have hst := stT_arr 0 y hth
  have hF := setT_box y hbx2 rfl
  have hB9 : Below w.heap.size w (w2.setCells w.heap.size 0 y.arr.toList) := setCells_below (Nat.le_refl _) _ _ (HB.out.trans (hb2'.mono HB.out.size))
  have hO9 := hO.kept (setCells_grown w.heap.size y.arr.toList 0 w2) (Nat.lt_succ_self _)
  have hl2 := box_lt hbx2
  clear k km hld
  go_wp2
  refine bodyPost_ret (ret_one rfl _ _ w.heap.size _ _ _ _ rfl hF Tryz.underlying82 rfl (by kernel_rfl)) rfl ⟨y, rfl, hy.trans HX.out, hO9, hB9⟩
set_option maxRecDepth 100000 in
set_option maxHeartbeats 1000000 in
theorem segmentsT_any (h : WalAt w0 w q lb d U M W) (h0 : Gl11 w0) (hI : M.Inv) :
    Calls Tryz.prog 29 #[.pointer (some ⟨q, 0, none⟩)] w fun e w' => (∃ p n c, e = .returned (.slice p n c) ∧ OwnsI w' w.heap.size (.slice p n c) (segs11 M.listT)) ∧ Below w.heap.size w w' := by
  have km := made_any11 h.box
  have c0 := h.box.cell
  have hlq := h.box.lt
  obtain ⟨S, G, x, g1, g2, g3⟩ := h.log11
  have k := numbers_any g1 h0 hI
  clear h g1 g2 g3
  go_enter Tryz.func29, Tryz.ntmps29
  go_wp2_with fail
  refine same_mono km ?_
  go_wp2_with fail
  refine k.mono ?_
  rintro _ w2 ⟨⟨p, n, c, rfl, hO⟩, hb2⟩
  go_wp2
  go_ret
  exact ⟨⟨p, n, c, rfl, hO⟩, hb2⟩
end
def readyP (M : DM) : Nat := if M.off = true then 9 else 0
set_option maxRecDepth 100000 in
set_option maxHeartbeats 1000000 in
theorem readyP_any {w : World} {d : Nat} {S : Nat → Prop} {M : DM} (hD : DiskAt w d S M) (hI : M.Inv) (h0 : (⟨#[]⟩ : ByteArray) ∉ M.names) :
    Calls Tryz.prog 88 #[.pointer (some ⟨d, 0, none⟩)] w fun e w' => e = .returned (.int .i64 (readyP M : Nat)) ∧ Below w.heap.size w w' := by
  have k := read_any hD hI (x := ⟨#[]⟩) (by decide)
  have e1 : M.readE ⟨#[]⟩ = if M.off = true then 9 else 4 := by unfold DM.readE; rw [if_pos h0]
  have hmix : Tryz.prog.follows Departure.mixedOrders = true := by kernel_rfl
  unfold readyP
  clear hD hI
  cases ho : M.off with
  | true =>
    rw [e1, ho, if_pos rfl] at k
    rw [if_pos rfl]
    clear e1
    go_enter Tryz.func88, Tryz.ntmps88
    go_wp2_with (go_at_call 157; refine k.mono ?_; rintro _ w2 ⟨⟨v, rfl, hO⟩, hb2⟩)
    go_ret
    exact ⟨rfl, hb2⟩
  | false =>
    rw [e1, ho, if_neg (by decide)] at k
    rw [if_neg (by decide)]
    clear e1
    go_enter Tryz.func88, Tryz.ntmps88
    go_wp2_with (go_at_call 157; refine k.mono ?_; rintro _ w2 ⟨⟨v, rfl, hO⟩, hb2⟩)
    go_ret
    exact ⟨rfl, hb2⟩
set_option maxRecDepth 100000 in
set_option maxHeartbeats 1000000 in
theorem openL_none {w0 w : World} {lb d c : Nat} {S G : Nat → Prop} {M : DM} {L : LogV} (h : Log11 w0 w lb d S G M L) (h0 : Gl11 w0) (hO : M.OkN c) (hc : c + 2 < 1099511627776) (hs : segs11 M.listT = []) :
    Calls Tryz.prog 89 #[.pointer (some ⟨lb, 0, none⟩)] w fun e w' => e = .returned (.int .i64 ((begin11 M 1).1 : Nat)) ∧ LogS w0 w w' lb d S G (begin11 M 1).2 (L.begun (begin11 M 1).1 1) := by
  have k := numbers_any h h0 hO.inv
  rw [hs] at k
  have KB : Hid (∀ w1, Below w.heap.size w w1 → Calls Tryz.prog 158 #[.pointer (some ⟨lb, 0, none⟩), .int .i64 1] w1 fun e w' => e = .returned (.int .i64 ((begin11 M 1).1 : Nat)) ∧ LogS w0 w w' lb d S G (begin11 M 1).2 (L.begun (begin11 M 1).1 1)) := fun w1 hb => beginW_any ((LogS.of (h.below hb)).since hb) h0 hO hc 1 (by decide)
  clear h h0 hO hs
  go_enter Tryz.func89, Tryz.ntmps89
  go_wp2_with fail
  refine k.mono ?_
  rintro _ w1 ⟨⟨p, n, c', rfl, hO1⟩, hb1⟩
  obtain rfl : n = 0 := by
    obtain ⟨p', c2, hv, -⟩ := hO1.has
    simp only [Value.slice.injEq] at hv
    exact hv.2.1
  have kb := KB.out w1 hb1
  clear KB k hO1
  go_wp2_with fail
  refine kb.mono ?_
  rintro _ w2 ⟨rfl, hL⟩
  go_wp2
  go_ret
  exact ⟨rfl, hL⟩

theorem Log11.other {w0 w w' : World} {lb d b : Nat} {S G : Nat → Prop} {M : DM} {L : LogV} (h : Log11 w0 w lb d S G M L) (ht : Turn (fun k => k = b) w w') (hs : ¬ S b) (hg : ¬ G b) (hb : w0.heap.size ≤ b) : Log11 w0 w' lb d S G M L :=
  ⟨h.disk.turn ht (fun k hk e => hs (by rw [← e]; exact hk)) (fun k e => by rw [e]; exact hb), (ht.block lb h.box.lt (fun e => hg (by rw [← e]; exact h.gl))).trans h.box, h.sta.stay (Stay.of_turn ht fun k hk e => hg (by rw [← e]; exact hk)) (Stay.of_turn ht fun k hk e => hg (by rw [← e]; exact hk)), h.gl, h.apart, fun k hk => ⟨(h.own k hk).1, Nat.lt_of_lt_of_le (h.own k hk).2 ht.size⟩, h.seg, h.last⟩
theorem Turn.setCells9 {X : World} {b : Nat} : ∀ (vs : List Value) (o : Nat) (Y : World), Turn (fun k => k = b) X Y → Turn (fun k => k = b) X (Y.setCells b o vs)
  | [], _, _, h => h
  | v :: r, o, Y, h => Turn.setCells9 r (o + 1) (Y.setCell ⟨b, o, none⟩ v) (h.setCell (p := ⟨b, o, none⟩) (.inl rfl) v)
structure Opened (w0 w : World) (q lb d : Nat) (M : DM) (W : WM) : Prop where
  ex : ∃ U, WalAt w0 w q lb d U M W
set_option maxRecDepth 100000 in
set_option maxHeartbeats 1000000 in
theorem openT_none {w0 w : World} {d c : Nat} {S : Nat → Prop} {M : DM} (h : Disk8 w0 w d S M) (h0 : Gl11 w0) (hO : M.OkN c) (hc : c + 2 < 1099511627776) (hf : M.off = false) (hs : segs11 M.listT = []) (hn : (⟨#[]⟩ : ByteArray) ∉ M.names) (hg : (begin11 M 1).1 = 0) (sg : Int) (hsg : 1 ≤ sg ∧ sg ≤ 1048576) :
    Calls Tryz.prog 32 #[.pointer (some ⟨d, 0, none⟩), .int .i64 sg] w fun e w' => ∃ q lb, ∃ y : StaV, e = .returned (.tuple #[.pointer (some ⟨q, 0, none⟩), .agg y.arr, .int .i64 0]) ∧ Opened w0 w' q lb d (begin11 M 1).2 ⟨sg, 1, noTV.s, false⟩ := by
  have hB1 : Below w.heap.size w (w.alloc (.cells #[.int .i64 0, .int .i64 0, .int .i64 0, .int .i64 0, .int .i64 0, .slice none 0 0] 82)) := (Below.refl _ w).alloc (Nat.le_refl _) _
  have hbx := heap_alloc_new w (.cells #[.int .i64 0, .int .i64 0, .int .i64 0, .int .i64 0, .int .i64 0, .slice none 0 0] 82)
  have kr := readyP_any (h.below hB1).at8 hO.inv hn
  have e0 : readyP M = 0 := by unfold readyP; rw [hf]; rfl
  rw [e0] at kr
  have KO : Hid (∀ w2, Below w.heap.size w w2 → Calls Tryz.prog 89 #[.pointer (some ⟨w2.heap.size, 0, none⟩)] (w2.alloc (.cells #[.pointer (some ⟨d, 0, none⟩), .int .i64 sg, .int .i64 0, .int .i64 0, .int .i64 0, .int .i64 0, .int .i64 0, .slice none 0 0, .int .i64 0, .bool false] 145)) fun e w' => e = .returned (.int .i64 0) ∧ LogS w0 (w2.alloc (.cells #[.pointer (some ⟨d, 0, none⟩), .int .i64 sg, .int .i64 0, .int .i64 0, .int .i64 0, .int .i64 0, .int .i64 0, .slice none 0 0, .int .i64 0, .bool false] 145)) w' w2.heap.size d S (fun k => k = w2.heap.size) (begin11 M 1).2 ⟨sg, 1, noTV, false⟩) := fun w2 hb => by
    have hb3 : Below w2.heap.size w2 (w2.alloc (.cells #[.pointer (some ⟨d, 0, none⟩), .int .i64 sg, .int .i64 0, .int .i64 0, .int .i64 0, .int .i64 0, .int .i64 0, .slice none 0 0, .int .i64 0, .bool false] 145)) := (Below.refl _ w2).alloc (Nat.le_refl _) _
    have hbl := heap_alloc_new w2 (.cells #[.pointer (some ⟨d, 0, none⟩), .int .i64 sg, .int .i64 0, .int .i64 0, .int .i64 0, .int .i64 0, .int .i64 0, .slice none 0 0, .int .i64 0, .bool false] 145)
    have hl : Log11 w0 (w2.alloc (.cells #[.pointer (some ⟨d, 0, none⟩), .int .i64 sg, .int .i64 0, .int .i64 0, .int .i64 0, .int .i64 0, .int .i64 0, .slice none 0 0, .int .i64 0, .bool false] 145)) w2.heap.size d S (fun k => k = w2.heap.size) M ⟨sg, 0, noTV, false⟩ := by
      refine ⟨(h.below hb).below hb3, hbl, StaG.nil _ _, rfl, fun k hk hs => ?_, fun k hk => ?_, ⟨by show _ ≤ sg; omega, by show sg ≤ _; omega⟩, .inr rfl⟩
      · have h1 := (h.own k hs).2
        have h2 := hb.size
        have h3 : k = w2.heap.size := hk
        omega
      · have h1 := h.bel.size
        have h2 := hb.size
        have h3 : k = w2.heap.size := hk
        rw [World.size_alloc]
        omega
    have k := openL_none hl h0 hO hc hs
    unfold LogV.begun at k
    rw [hg, if_pos rfl] at k
    exact k
  have HO : Hid (w0.heap.size ≤ w.heap.size ∧ ∀ k, S k → w0.heap.size ≤ k ∧ k < w.heap.size) := ⟨h.bel.size, h.own⟩
  have HB1 : Hid (Below w.heap.size w (w.alloc (.cells #[.int .i64 0, .int .i64 0, .int .i64 0, .int .i64 0, .int .i64 0, .slice none 0 0] 82))) := hB1
  have HBX : Hid ((w.alloc (.cells #[.int .i64 0, .int .i64 0, .int .i64 0, .int .i64 0, .int .i64 0, .slice none 0 0] 82)).heap[w.heap.size]? = some (.cells #[.int .i64 0, .int .i64 0, .int .i64 0, .int .i64 0, .int .i64 0, .slice none 0 0] 82 (0, 0))) := hbx
  obtain ⟨hsg1, hsg2⟩ := hsg
  clear h h0 hO hf hs hn hg hB1 hbx e0
  generalize (begin11 M 1).2 = M1 at *
  go_enter Tryz.func32, Tryz.ntmps32
  go_wp2_with fail
  refine kr.mono ?_
  rintro _ w2 ⟨rfl, hb2⟩
  have HB2 : Hid (Below w.heap.size w w2) := HB1.out.trans (hb2.mono HB1.out.size)
  have HBX2 : Hid (w2.heap[w.heap.size]? = some (.cells #[.int .i64 0, .int .i64 0, .int .i64 0, .int .i64 0, .int .i64 0, .slice none 0 0] 82 (0, 0))) := box_below HBX.out hb2
  have ko := KO.out w2 HB2.out
  clear kr KO HBX hb2
  go_wp2_with fail
  refine ko.mono ?_
  rintro _ w4 ⟨rfl, hL4⟩
  obtain ⟨S', g1, g2, g3⟩ := hL4.ex
  have hlb4 := g1.box.lt
  have hb3 : Below w.heap.size w (w2.alloc (.cells #[.pointer (some ⟨d, 0, none⟩), .int .i64 sg, .int .i64 0, .int .i64 0, .int .i64 0, .int .i64 0, .int .i64 0, .slice none 0 0, .int .i64 0, .bool false] 145)) := HB2.out.alloc HB2.out.size _
  have hb4 : Below w2.heap.size w2 (w2.alloc (.cells #[.pointer (some ⟨d, 0, none⟩), .int .i64 sg, .int .i64 0, .int .i64 0, .int .i64 0, .int .i64 0, .int .i64 0, .slice none 0 0, .int .i64 0, .bool false] 145)) := (Below.refl _ w2).alloc (Nat.le_refl _) _
  have HS : Hid (¬ S w.heap.size ∧ ¬ S' w.heap.size ∧ ¬ w.heap.size = w2.heap.size) := by
    have h1 := box_lt HBX2.out
    have h2 : ¬ S w.heap.size := fun hs => Nat.lt_irrefl _ (HO.out.2 _ hs).2
    refine ⟨h2, fun hs => ?_, by omega⟩
    rcases g3 _ hs with h | h
    · exact h2 h
    · rw [World.size_alloc] at h
      omega
  have HBX4 : Hid (w4.heap[w.heap.size]? = some (.cells #[.int .i64 0, .int .i64 0, .int .i64 0, .int .i64 0, .int .i64 0, .slice none 0 0] 82 (0, 0))) := by
    have h1 := box_below HBX2.out hb4
    exact (g2.block _ (box_lt h1) (fun h => h.elim HS.out.1 HS.out.2.2)).trans h1
  have hb5 : Below w4.heap.size w4 (w4.alloc (.cells #[.pointer (some ⟨w2.heap.size, 0, none⟩)] 74)) := (Below.refl _ w4).alloc (Nat.le_refl _) _
  have hq5 := heap_alloc_new w4 (.cells #[.pointer (some ⟨w2.heap.size, 0, none⟩)] 74)
  have g5 := g1.below hb5
  have hld5 : (ldT (.pointer (some ⟨w2.heap.size, 2, none⟩))).run Tryz.prog (w4.alloc (.cells #[.pointer (some ⟨w2.heap.size, 0, none⟩)] 74)) = .ok (.agg noTV.arr) (w4.alloc (.cells #[.pointer (some ⟨w2.heap.size, 0, none⟩)] 74)) := g5.box.ldT
  have kc := copyS_any (w4.alloc (.cells #[.pointer (some ⟨w2.heap.size, 0, none⟩)] 74)) noTV g5.sta.row.has (by intro e he; cases he) (by decide)
  have HG5 : Hid (Log11 w0 (w4.alloc (.cells #[.pointer (some ⟨w2.heap.size, 0, none⟩)] 74)) w2.heap.size d S' (fun k => k = w2.heap.size) M1 ⟨sg, 1, noTV, false⟩) := g5
  have HQ5 : Hid ((w4.alloc (.cells #[.pointer (some ⟨w2.heap.size, 0, none⟩)] 74)).heap[w4.heap.size]? = some (.cells #[.pointer (some ⟨w2.heap.size, 0, none⟩)] 74 (0, 0))) := hq5
  have HBX5 : Hid ((w4.alloc (.cells #[.pointer (some ⟨w2.heap.size, 0, none⟩)] 74)).heap[w.heap.size]? = some (.cells #[.int .i64 0, .int .i64 0, .int .i64 0, .int .i64 0, .int .i64 0, .slice none 0 0] 82 (0, 0))) := box_below HBX4.out hb5
  have HN : Hid (∀ k, S' k ∨ k = w2.heap.size → w0.heap.size ≤ k ∧ k < w4.heap.size) := fun k hk => hk.elim (fun h => g1.disk.own k h) (fun h => g1.own k h)
  have HLT : Hid (w.heap.size < w4.heap.size) := box_lt HBX4.out
  clear ko hL4 g1 g2 g3 hb3 hb4 hb5 hq5 g5 HBX2 HBX4 HB1 HB2
  go_wp2_with fail
  refine kc.mono ?_
  rintro _ w6 ⟨y, rfl, hy, hOy, hb6⟩
  have hbx6 := box_below HBX5.out hb6
  have hth := there_box hbx6 0 6 (Nat.le_refl _)
  have hst := stT_arr 0 y hth
  have hF := setT_box y hbx6 rfl
  have hl6 := box_lt hbx6
  have HT : Hid (Turn (fun k => k = w.heap.size) w6 (w6.setCells w.heap.size 0 y.arr.toList)) := Turn.setCells9 _ _ _ (Turn.refl _ _)
  have HG7 : Hid (Log11 w0 (w6.setCells w.heap.size 0 y.arr.toList) w2.heap.size d S' (fun k => k = w2.heap.size) M1 ⟨sg, 1, noTV, false⟩) := (HG5.out.below hb6).other HT.out HS.out.2.1 HS.out.2.2 HO.out.1
  have hQ6 := box_below HQ5.out hb6
  have HQ7 : Hid ((w6.setCells w.heap.size 0 y.arr.toList).heap[w4.heap.size]? = some (.cells #[.pointer (some ⟨w2.heap.size, 0, none⟩)] 74 (0, 0))) := (HT.out.block _ (box_lt hQ6) (fun e => by have := HLT.out; omega)).trans hQ6
  clear kc hld5 hQ6
  go_wp2
  have hW : WalAt w0 (w6.setCells w.heap.size 0 y.arr.toList) w4.heap.size w2.heap.size d (fun k => S' k ∨ k = w2.heap.size) M1 ⟨sg, 1, noTV.s, false⟩ :=
    ⟨⟨S', fun k => k = w2.heap.size, noTV, HG7.out, rfl, Turn.refl _ _, fun k hk => .inl hk⟩, HQ7.out, fun hk => Nat.lt_irrefl _ (HN.out _ hk).2, .inr rfl, fun k hk => ⟨(HN.out k hk).1, Nat.lt_trans (HN.out k hk).2 (box_lt HQ7.out)⟩, Nat.le_trans HO.out.1 (Nat.le_of_lt HLT.out)⟩
  refine bodyPost_ret (ret_tct11 rfl _ _ w.heap.size _ _ _ _ rfl hF Tryz.underlying82 rfl (by kernel_rfl)) rfl ⟨_, _, y, rfl, ⟨_, hW⟩⟩
def noopV (i t : Int) : EntV := ⟨i, t, 1, zeroC9, noFV⟩
def lM0 : DM := (begin11 (DM.empty 5000) 1).2
def lW0 : WM := ⟨100, 1, noTV.s, false⟩
def lH : Hard10 := ⟨1, 0, 0⟩
def lR1 : Nat × WM × DM := saveP lM0 lW0 (recs11 lH lW0.s ([noopV 1 1, noopV 2 1].map EntV.e))
def lM1 : DM := lR1.2.2
def lW1 : WM := lR1.2.1.did lR1.1
def lR2 : Nat × WM × DM := saveP lM1 lW1 (recs11 lH lW1.s ([noopV 2 2].map EntV.e))
def lM2 : DM := lR2.2.2
def lW2 : WM := lR2.2.1.did lR2.1
def lR3 : Nat × WM × DM := compactP lM2 lW2 1 1
def lM3 : DM := lR3.2.2
def lW3 : WM := lR3.2.1.did lR3.1
set_option maxRecDepth 100000 in
theorem l_errs : (begin11 (DM.empty 5000) 1).1 = 0 ∧ lR1.1 = 0 ∧ lR2.1 = 0 ∧ lR3.1 = 0 := by decide +kernel
set_option maxRecDepth 100000 in
theorem l_off : lM0.off = false ∧ lM1.off = false ∧ lM2.off = false ∧ lM3.off = false := by decide +kernel
set_option maxRecDepth 100000 in
theorem l_dead : lW0.dead = false ∧ lW1.dead = false ∧ lW2.dead = false ∧ lW3.dead = false := by decide +kernel
set_option maxRecDepth 100000 in
theorem l_n : lW0.n = 1 ∧ lW1.n = 1 ∧ lW2.n = 1 ∧ lW3.n = 2 := by decide +kernel
set_option maxRecDepth 100000 in
theorem l_len : lW0.s.es.length = 0 ∧ lW1.s.es.length = 2 ∧ lW2.s.es.length = 2 ∧ lW3.s.es.length = 1 := by decide +kernel
set_option maxRecDepth 100000 in
theorem l_good1 : ∀ r ∈ recs11 lH lW0.s ([noopV 1 1, noopV 2 1].map EntV.e), goodR11 r = true := by decide +kernel
set_option maxRecDepth 100000 in
theorem l_good2 : ∀ r ∈ recs11 lH lW1.s ([noopV 2 2].map EntV.e), goodR11 r = true := by decide +kernel
set_option maxRecDepth 100000 in
theorem l_good3 : goodR11 (recBs 1 1) = true ∧ (pfold11 lW2.s (recBs 1 1)).2 = true := by decide +kernel
set_option maxRecDepth 100000 in
theorem l_segs : (segs11 lM3.listT).length = 1 ∧ segs11 (DM.empty 5000).listT = [] := by decide +kernel
theorem l_es2 : lW2.s.es = [(noopV 1 1).e, (noopV 2 2).e] := by rfl
theorem l_i3 : lW3.s.i = 1 := by decide +kernel
theorem few_noop (i t : Int) : FewF (noopV i t).f.f ∧ FewC (noopV i t).c := by
  constructor
  · show FewF ⟨[], []⟩
    unfold FewF
    decide
  · show FewC zeroC9
    unfold FewC
    decide

set_option maxRecDepth 100000 in
set_option maxHeartbeats 1000000 in
theorem noop_any (w : World) (i t : Int) : Calls Tryz.prog 35 #[.int .i64 i, .int .i64 t] w fun e w' => e = .returned (.agg (noopV i t).arr) ∧ Below w.heap.size w w' := by
  have hB1 : Below w.heap.size w (w.alloc (.cells #[.int .i64 0, .int .i64 0, .int .i64 0, .int .i64 0, .int .i64 0, .int .i64 0, .string ⟨#[]⟩, .string ⟨#[]⟩, .string ⟨#[]⟩, .string ⟨#[]⟩, .int .i64 0, .slice none 0 0, .slice none 0 0] 28)) := (Below.refl _ w).alloc (Nat.le_refl _) _
  have hbx := heap_alloc_new w (.cells #[.int .i64 0, .int .i64 0, .int .i64 0, .int .i64 0, .int .i64 0, .int .i64 0, .string ⟨#[]⟩, .string ⟨#[]⟩, .string ⟨#[]⟩, .string ⟨#[]⟩, .int .i64 0, .slice none 0 0, .slice none 0 0] 28)
  have hth := there_box hbx 0 13 (Nat.le_refl _)
  have hst := stE_arr 0 (noopV i t) hth
  have hF := setE_box (noopV i t) hbx rfl
  have hB9 := setCells_below (Nat.le_refl w.heap.size) (noopV i t).arr.toList 0 hB1
  unfold noopV EntV.arr zeroC9 noFV nilS10 at *
  dsimp only at *
  go_enter Tryz.func35, Tryz.ntmps35
  go_wp2
  refine bodyPost_ret (ret_one rfl _ _ w.heap.size _ _ _ _ rfl hF Tryz.underlying28 rfl (by kernel_rfl)) rfl ⟨rfl, hB9⟩

structure Liv (w0 w : World) (q lb d : Nat) (M : DM) (W : WM) (l : List (Nat × Obj)) : Prop where
  ex : ∃ U, WalAt w0 w q lb d U M W ∧ ∀ p ∈ l, ¬ U p.1 ∧ w.heap[p.1]? = some p.2
section
variable {w0 w w' : World} {q lb d : Nat} {M M' : DM} {W W' : WM} {l : List (Nat × Obj)}
theorem heap_lt {w : World} {b : Nat} {o : Obj} (h : w.heap[b]? = some o) : b < w.heap.size := by
  rcases Nat.lt_or_ge b w.heap.size with h1 | h1
  · exact h1
  · rw [Array.getElem?_eq_none h1] at h
    cases h
theorem Liv.below (h : Liv w0 w q lb d M W l) (hb : Below w.heap.size w w') : Liv w0 w' q lb d M W l := by
  obtain ⟨U, h1, h2⟩ := h.ex
  exact ⟨U, h1.below hb, fun p hp => ⟨(h2 p hp).1, (hb.block _ (heap_lt (h2 p hp).2)).trans (h2 p hp).2⟩⟩
theorem Liv.alloc (h : Liv w0 w q lb d M W l) (o : Obj) : Liv w0 (w.alloc o) q lb d M W ((w.heap.size, o) :: l) := by
  have hb : Below w.heap.size w (w.alloc o) := (Below.refl _ w).alloc (Nat.le_refl _) _
  obtain ⟨U, h1, h2⟩ := h.ex
  refine ⟨U, h1.below hb, fun p hp => ?_⟩
  rcases List.mem_cons.1 hp with rfl | hp
  · exact ⟨h1.fresh (Nat.le_refl _), heap_alloc_new w o⟩
  · exact ⟨(h2 p hp).1, (hb.block _ (heap_lt (h2 p hp).2)).trans (h2 p hp).2⟩
theorem Liv.bel (h : Liv w0 w q lb d M W l) : Below w0.heap.size w0 w := by
  obtain ⟨U, h1, -⟩ := h.ex
  obtain ⟨S, G, x, g1, -⟩ := h1.log11
  exact g1.bel
theorem Liv.box (h : Liv w0 w q lb d M W l) {b : Nat} {o : Obj} (hm : (b, o) ∈ l) : w.heap[b]? = some o := by
  obtain ⟨U, h1, h2⟩ := h.ex
  exact (h2 _ hm).2
theorem Liv.set (h : Liv w0 w q lb d M W l) {b : Nat} {o o' : Obj} (hm : (b, o) ∈ l) (hbq : b ≠ q) (hlo : w0.heap.size ≤ b) (ht : Turn (fun k => k = b) w w') (hn : w'.heap[b]? = some o') : Liv w0 w' q lb d M W ((b, o') :: l.filter fun p => p.1 != b) := by
  obtain ⟨U, h1, h2⟩ := h.ex
  have hub := (h2 _ hm).1
  obtain ⟨S, G, x, g1, g2, g3⟩ := h1.log11
  refine ⟨U, ⟨⟨S, G, x, g1.other ht (fun hs => hub (g3 _ (.inl hs))) (fun hs => hub (g3 _ (.inr hs))) hlo, g2, Turn.refl _ _, fun k hk => .inl (g3 k hk)⟩, (ht.block q h1.box.lt (fun e => hbq e.symm)).trans h1.box, h1.nq, h1.ul, fun k hk => ⟨(h1.own k hk).1, Nat.lt_of_lt_of_le (h1.own k hk).2 ht.size⟩, h1.lo⟩, fun p hp => ?_⟩
  rcases List.mem_cons.1 hp with rfl | hp
  · exact ⟨hub, hn⟩
  · obtain ⟨hp1, hp2⟩ := List.mem_filter.1 hp
    exact ⟨(h2 p hp1).1, (ht.block _ (heap_lt (h2 p hp1).2) (fun e => by simp [e] at hp2)).trans (h2 p hp1).2⟩
end
theorem okN_begin {c : Nat} {M : DM} (h : M.OkN c) (n : Int) : (begin11 M n).2.OkN (c + 2) := by
  unfold begin11
  split
  · exact (h.create _).mono (by omega)
  · exact (h.create _).syncs
theorem okN_drop (n : Int) : ∀ (l : List Int) {c : Nat} {M : DM}, M.OkN c → (drop11 n M l).2.OkN (c + l.length)
  | [], _, _, h => h
  | a :: l, c, M, h => by
    unfold drop11
    split
    · exact (okN_drop n l h).mono (by simp only [List.length_cons]; omega)
    · split
      · exact (h.remove _).mono (by simp only [List.length_cons]; omega)
      · exact (okN_drop n l (h.remove _)).mono (by simp only [List.length_cons]; omega)
theorem bytesP_isB (base : Int) : ∀ (l : List Rec11) (last : Int) (bs : List Int), bytesP base last l = some bs → isB8 bs
  | [], _, bs, h => by
    rw [show bytesP base _ [] = some [] from rfl, Option.some.injEq] at h
    subst h
    intro b hb
    cases hb
  | r :: l, last, bs, h => by
    rw [bytesP_cons] at h
    split at h
    · rw [Option.map_eq_some_iff] at h
      obtain ⟨b2, h2, rfl⟩ := h
      have h3 := bytesP_isB base l _ b2 h2
      intro b hb
      rcases List.mem_append.1 hb with hb | hb
      · exact isB_of8 (recB_isB11 r) b hb
      · exact h3 b hb
    · cases h
theorem okN_nextQ {c : Nat} {M : DM} (h : M.OkN c) (W : WM) : (nextQ M W).2.2.OkN (c + 2) := by
  unfold nextQ
  split
  · exact h.mono (by omega)
  · split
    · exact h.mono (by omega)
    · exact okN_begin h _
theorem okN_save {c : Nat} {M : DM} (h : M.OkN c) (W : WM) (rs : List Rec11) : (saveP M W rs).2.2.OkN (c + 4) := by
  unfold saveP
  split
  · exact h.mono (by omega)
  · rename_i bs hbs
    have hb := bytesP_isB _ _ _ _ hbs
    split
    · exact h.mono (by omega)
    · split
      · exact (h.append _ hb).mono (by omega)
      · split
        · exact (h.append _ hb).syncs.mono (by omega)
        · exact okN_nextQ (h.append _ hb).syncs _
theorem l_ok0 : lM0.OkN 2 := okN_begin (okN_empty 5000 (by decide)) 1
theorem l_ok1 : lM1.OkN 6 := okN_save l_ok0 _ _
theorem l_ok2 : lM2.OkN 10 := okN_save l_ok1 _ _
theorem l_inv3 : lM3.Inv := by
  have h : ∃ c, lM3.OkN c := by
    unfold lM3 lR3 compactP
    split
    · exact ⟨10, l_ok2⟩
    · split
      · exact ⟨_, okN_rput l_ok2 (isB_of8 (allB_isB _)) _⟩
      · exact ⟨_, okN_drop _ _ (okN_rput l_ok2 (isB_of8 (allB_isB _)) _)⟩
  obtain ⟨c, h⟩ := h
  exact h.inv
theorem fewS_of {es : List EntV} {s : Sta11} (h : s.es = es.map EntV.e) (hf : FewL es) : FewS s := fun e he => by
  rw [h] at he
  obtain ⟨e2, he2, rfl⟩ := List.mem_map.1 he
  exact hf e2 he2
theorem fewL_noop : ∀ (l : List (Int × Int)), FewL (l.map fun p => noopV p.1 p.2) := fun l e he => by
  obtain ⟨p, -, rfl⟩ := List.mem_map.1 he
  exact few_noop p.1 p.2
theorem l_es3 : lW3.s.es = [noopV 2 2].map EntV.e := by kernel_rfl
theorem in1w : inI 1 := by unfold inI; decide
section
variable {w0 w w' : World} {q lb d : Nat} {l : List (Nat × Obj)}
theorem Liv.turned {U : Nat → Prop} {M M' : DM} {W W' : WM} (h1 : WalAt w0 w q lb d U M W) (h2 : ∀ p ∈ l, ¬ U p.1 ∧ w.heap[p.1]? = some p.2) (hL : LogU w0 w w' lb d U M' W') : Liv w0 w' q lb d M' W' l := by
  refine ⟨_, h1.next hL, fun p hp => ⟨fun hk => ?_, (hL.turn.block _ (heap_lt (h2 p hp).2) (h2 p hp).1).trans (h2 p hp).2⟩⟩
  rcases hk with hk | ⟨hk, -⟩
  · exact (h2 p hp).1 hk
  · have := heap_lt (h2 p hp).2
    omega
theorem Liv.save1 (h : Liv w0 w q lb d lM0 lW0 l) (h0 : Gl11 w0) (s : Sl10) (hE : HasE w s [noopV 1 1, noopV 2 1]) :
    Calls Tryz.prog 27 #[.pointer (some ⟨q, 0, none⟩), .agg lH.arr, .slice s.p s.n s.c] w fun e w' => e = .returned (.int .i64 0) ∧ Liv w0 w' q lb d lM1 lW1 l := by
  obtain ⟨U, h1, h2⟩ := id h.ex
  have k := saveT_any h1 h0 l_ok0 (by decide) l_dead.1 l_off.1 (by rw [l_n.1]; decide) (by rw [l_len.1]; decide) lH ⟨in1w, in0, in0⟩ s _ hE (fewL_noop [(1, 1), (2, 1)]) (by decide) l_good1
  refine k.mono fun e w' he => ⟨he.1.trans ?_, Liv.turned h1 h2 he.2⟩
  rw [show (saveP lM0 lW0 (recs11 lH lW0.s ([noopV 1 1, noopV 2 1].map EntV.e))).1 = 0 from l_errs.2.1]
  rfl
theorem Liv.save2 (h : Liv w0 w q lb d lM1 lW1 l) (h0 : Gl11 w0) (s : Sl10) (hE : HasE w s [noopV 2 2]) :
    Calls Tryz.prog 27 #[.pointer (some ⟨q, 0, none⟩), .agg lH.arr, .slice s.p s.n s.c] w fun e w' => e = .returned (.int .i64 0) ∧ Liv w0 w' q lb d lM2 lW2 l := by
  obtain ⟨U, h1, h2⟩ := id h.ex
  have k := saveT_any h1 h0 l_ok1 (by decide) l_dead.2.1 l_off.2.1 (by rw [l_n.2.1]; decide) (by rw [l_len.2.1]; decide) lH ⟨in1w, in0, in0⟩ s _ hE (fewL_noop [(2, 2)]) (by decide) l_good2
  refine k.mono fun e w' he => ⟨he.1.trans ?_, Liv.turned h1 h2 he.2⟩
  rw [show (saveP lM1 lW1 (recs11 lH lW1.s ([noopV 2 2].map EntV.e))).1 = 0 from l_errs.2.2.1]
  rfl
theorem Liv.compact (h : Liv w0 w q lb d lM2 lW2 l) (h0 : Gl11 w0) :
    Calls Tryz.prog 28 #[.pointer (some ⟨q, 0, none⟩), .int .i64 1, .int .i64 1] w fun e w' => e = .returned (.int .i64 0) ∧ Liv w0 w' q lb d lM3 lW3 l := by
  obtain ⟨U, h1, h2⟩ := id h.ex
  have k := compactT_any h1 h0 l_ok2 (by decide) l_dead.2.2.1 l_off.2.2.1 (by rw [l_n.2.2.1]; decide) (by rw [l_len.2.2.1]; decide) (fewS_of (es := [noopV 1 1, noopV 2 2]) l_es2 (fewL_noop [(1, 1), (2, 2)])) 1 1 in1w in1w l_good3.1 l_good3.2 (by rw [l_n.2.2.1]; decide)
  refine k.mono fun e w' he => ⟨he.1.trans ?_, Liv.turned h1 h2 he.2⟩
  rw [show (compactP lM2 lW2 1 1).1 = 0 from l_errs.2.2.2]
  rfl
theorem Liv.state2 (h : Liv w0 w q lb d lM2 lW2 l) :
    Calls Tryz.prog 31 #[.pointer (some ⟨q, 0, none⟩)] w fun e w' => ∃ y : StaV, e = .returned (.agg y.arr) ∧ y.s = lW2.s ∧ OwnsEs w' (w.heap.size + 1) y.w y.es ∧ Below w.heap.size w w' := by
  obtain ⟨U, h1, h2⟩ := h.ex
  exact stateT_any h1 (by rw [l_len.2.2.1]; decide) (fewS_of (es := [noopV 1 1, noopV 2 2]) l_es2 (fewL_noop [(1, 1), (2, 2)]))
theorem Liv.state3 (h : Liv w0 w q lb d lM3 lW3 l) :
    Calls Tryz.prog 31 #[.pointer (some ⟨q, 0, none⟩)] w fun e w' => ∃ y : StaV, e = .returned (.agg y.arr) ∧ y.s = lW3.s ∧ OwnsEs w' (w.heap.size + 1) y.w y.es ∧ Below w.heap.size w w' := by
  obtain ⟨U, h1, h2⟩ := h.ex
  exact stateT_any h1 (by rw [l_len.2.2.2]; decide) (fewS_of l_es3 (fewL_noop [(2, 2)]))
theorem Liv.segs3 (h : Liv w0 w q lb d lM3 lW3 l) (h0 : Gl11 w0) :
    Calls Tryz.prog 29 #[.pointer (some ⟨q, 0, none⟩)] w fun e w' => (∃ p c, e = .returned (.slice p 1 c)) ∧ Below w.heap.size w w' := by
  obtain ⟨U, h1, h2⟩ := h.ex
  refine (segmentsT_any h1 h0 l_inv3).mono fun e w' he => ⟨?_, he.2⟩
  obtain ⟨p, n, c, rfl, hO⟩ := he.1
  obtain ⟨p', c', hv, -⟩ := hO.has
  simp only [Value.slice.injEq] at hv
  refine ⟨p, c, ?_⟩
  rw [hv.2.1, l_segs.1]
theorem Liv.opened (W : World) (h0 : Gl11 W) {w2 : World} {S : Nat → Prop} {d : Nat} (h : Disk8 W w2 d S (DM.empty 5000)) : Calls Tryz.prog 32 #[.pointer (some ⟨d, 0, none⟩), .int .i64 100] w2 fun e w' => ∃ q lb, ∃ y : StaV, e = .returned (.tuple #[.pointer (some ⟨q, 0, none⟩), .agg y.arr, .int .i64 0]) ∧ Liv W w' q lb d lM0 lW0 [] := by
  refine (openT_none h h0 (okN_empty 5000 (by decide)) (by decide) rfl l_segs.2 (by show _ ∉ ([] : List ByteArray); simp) l_errs.1 100 (by decide)).mono ?_
  rintro e w' ⟨q, lb, y, rfl, hO⟩
  obtain ⟨U, hU⟩ := hO.ex
  exact ⟨q, lb, y, rfl, ⟨U, hU, fun p hp => by cases hp⟩⟩
end
end Go.Proofs.YtkbbhllchombdaaGreatDoor
