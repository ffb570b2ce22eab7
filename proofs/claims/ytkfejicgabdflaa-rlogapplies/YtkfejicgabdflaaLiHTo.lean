import Derived.Test.YtkfejicgabdflaaLhPTo
import Derived.Test.YtkfejicgabdflaaLxTo
namespace Go.Proofs.Ytkfejicgabdflaa
open Go.RowKit Go.Shelf
attribute [local go_sem ↓] ldE_exec stE_exec ldE_execI stE_execI ldE_box ldC_exec stC_exec ldC_execI stC_execI ldC_run oc_int oc_bool oc_string oc_slice oc_pointer
section
variable {w0 w w' : World} {b1 b2 : Nat} {G1 G2 : Nat → Prop} {L1 L2 L' : LG}
end
theorem heavy_len13 {w : World} {s : Sl10} {es : List EntV} (h : heavy13 (es.map EntV.e) = false) (hE : HasE w s es) : s.n ≤ 200 := by
  have h1 := of_decide_eq_false h
  have h2 := sum_len13 (es.map EntV.e)
  rw [List.length_map] at h2
  have := hE.n
  omega
end Go.Proofs.Ytkfejicgabdflaa

namespace Go.Proofs.Ytkfejicgabdflaa
open Go.RowKit Go.Shelf
structure Sub13 (es : List Ent10) (L : LG) : Prop where
  inv : L.Inv
  sub : ∃ d : Nat, L.ix = d ∧ L.l = es.drop d ∧ d ≤ es.length
theorem Sub13.new {es : List Ent10} {L : LG} (h : new13 0 0 es = some L) : Sub13 es L ∧ L.used = 0 := by
  obtain ⟨h1, rfl⟩ := new_inv13 h
  exact ⟨⟨h1, 0, rfl, rfl, Nat.zero_le _⟩, rfl⟩
section
variable {es : List Ent10} {L : LG}
theorem Sub13.end (h : Sub13 es L) : L.end = es.length := by
  obtain ⟨d, h1, h2, h3⟩ := h.sub
  show L.ix + (L.l.length : Int) = _
  rw [h2, List.length_drop]
  omega
theorem Sub13.commit (h : Sub13 es L) (i : Int) : Sub13 es (L.commit i).2 ∧ (L.commit i).2.used = L.used := by
  refine ⟨⟨h.inv.commit i, ?_⟩, ?_⟩
  · unfold LG.commit
    split <;> exact h.sub
  · unfold LG.commit
    split <;> rfl
theorem Sub13.compact (h : Sub13 es L) (i : Int) : Sub13 es (L.compact i).2 ∧ (L.compact i).2.used = L.used := by
  refine ⟨⟨h.inv.compact i, ?_⟩, ?_⟩
  · unfold LG.compact
    split
    · rename_i hc
      obtain ⟨d, h1, h2, h3⟩ := h.sub
      have h4 := h.inv.used
      have h5 := h.inv.done
      have h6 := h.inv.most
      have h7 := h.end
      obtain ⟨j, rfl⟩ : ∃ j : Nat, i = L.ix + j := ⟨(i - L.ix).toNat, by omega⟩
      refine ⟨d + j, by show L.ix + (j : Int) = _; omega, ?_, by omega⟩
      show L.slice (L.ix + j + 1) L.l.length = _
      rw [LG.slice_from, h2, List.drop_drop]
    · exact h.sub
  · unfold LG.compact
    split <;> rfl
theorem Sub13.apply (h : Sub13 es L) (m : Int) : Sub13 es (L.apply m).2 ∧ (L.apply m).2.used = L.used + (L.apply m).1.length ∧ L.used + (L.apply m).1.length ≤ L.done ∧ (L.apply m).2.done = L.done ∧ 0 ≤ L.used ∧ ∀ q (hq : q < (L.apply m).1.length), (L.apply m).1[q].i = L.used + q + 1 ∧ es[(L.used + q).toNat]? = some (L.apply m).1[q] := by
  have hI := h.inv.apply m
  obtain ⟨d, h1, h2, h3⟩ := h.sub
  have h4 := h.inv.used
  have h5 := h.inv.done
  have h6 := h.inv.most
  have h7 := h.end
  have h8 := h.inv.x0
  have hrow := h.inv.row
  unfold LG.apply at *
  have hm : L.applyN m ≤ L.done - L.used := by unfold LG.applyN; split <;> omega
  generalize L.applyN m = n at *
  by_cases hc : n < 1
  · simp only [if_pos hc] at hI ⊢
    exact ⟨h, by simp, by simpa using h5, trivial, by omega, fun q hq => absurd hq (Nat.not_lt_zero _)⟩
  · simp only [if_neg hc] at hI ⊢
    obtain ⟨j, hj⟩ : ∃ j : Nat, L.used = L.ix + j := ⟨(L.used - L.ix).toNat, by omega⟩
    obtain ⟨k, hk⟩ : ∃ k : Nat, n = k := ⟨n.toNat, by omega⟩
    have hll : (L.l.length : Int) = es.length - d := by rw [h2, List.length_drop]; omega
    have hsl : L.slice (L.used + 1) n = (L.l.drop j).take k := by
      unfold LG.slice
      rw [if_neg (by omega), show (L.used + 1 - L.ix - 1).toNat = j by omega, show n.toNat = k by omega]
    have hlen : (L.slice (L.used + 1) n).length = k := by
      rw [hsl, List.length_take, List.length_drop]
      omega
    refine ⟨⟨hI, d, h1, h2, h3⟩, by rw [hlen, ← hk], by rw [hlen]; omega, trivial, by omega, fun q hq => ?_⟩
    have hqk : q < k := by rw [hlen] at hq; exact hq
    have hjq : j + q < L.l.length := by omega
    have e1 : (L.slice (L.used + 1) n)[q]? = L.l[j + q]? := by rw [hsl, List.getElem?_take_of_lt hqk, List.getElem?_drop]
    rw [List.getElem?_eq_getElem hq, List.getElem?_eq_getElem hjq] at e1
    have e2 := Option.some.inj e1
    refine ⟨?_, ?_⟩
    · rw [e2, (chain_at13 hrow hjq).2]
      omega
    · have e3 : L.l[j + q]? = es[d + (j + q)]? := by
        have := congrArg (fun l => l[j + q]?) h2
        simp only [List.getElem?_drop] at this
        exact this
      rw [e2, ← List.getElem?_eq_getElem hjq, e3]
      congr 1
      omega
end
end Go.Proofs.Ytkfejicgabdflaa

namespace Go.Proofs.Ytkfejicgabdflaa
open Go.RowKit Go.Shelf
attribute [local go_sem ↓] ldE_exec stE_exec ldE_execI stE_execI ldE_box ldC_exec stC_exec ldC_execI stC_execI ldC_run oc_int oc_bool oc_string oc_slice oc_pointer
structure Ap13 (w wr : World) (b : Nat) (G : Nat → Prop) (L : LG) (es : List Ent10) : Prop where
  lg : Lg13 w wr b G L
  sub : Sub13 es L
  low : L.end ≤ 200
theorem kt13 {w wA wB : World} {A B C : Prop} (h : A ∧ B ∧ C ∧ Below w.heap.size w wA) (hb : Below wA.heap.size wA wB) : Below w.heap.size w wB := h.2.2.2.trans (hb.mono h.2.2.2.size)
theorem kt13b {w wA : World} {A B C : Prop} (h : A ∧ B ∧ C ∧ Below w.heap.size w wA) : Below w.heap.size w wA := h.2.2.2
theorem HasA13.at {W : World} {s : Sl10} {l : List ActV13} (h : HasA13 W s l) {j : Nat} (hj : j < s.n) : ∃ b o, s.p = some ⟨b, o, none⟩ ∧ b < W.heap.size ∧ (W.cell? ⟨b, o + j * 4, none⟩ = some (.int .i64 (l.getD j noAV13).k) ∧ W.cell? ⟨b, o + j * 4 + 1, none⟩ = some (.int .i64 (l.getD j noAV13).n) ∧ W.cell? ⟨b, o + j * 4 + 2, none⟩ = some (.int .i64 (l.getD j noAV13).m) ∧ W.cell? ⟨b, o + j * 4 + 3, none⟩ = some (.slice (l.getD j noAV13).w.p (l.getD j noAV13).w.n (l.getD j noAV13).w.c)) ∧ FitsA13 W (l.getD j noAV13) := by
  obtain ⟨b, o, hp, hlt, hc⟩ := h.at' (by omega)
  refine ⟨b, o, hp, hlt, ⟨hc j hj 0 (by decide), hc j hj 1 (by decide), hc j hj 2 (by decide), hc j hj 3 (by decide)⟩, h.all _ ?_⟩
  have hl : j < l.length := by rw [h.n]; exact hj
  rw [List.getD_eq_getElem?_getD, List.getElem?_eq_getElem hl]
  exact List.getElem_mem hl
set_option maxRecDepth 100000 in
set_option maxHeartbeats 8000000 in
theorem rlogApplies_walk (w : World) (sz : Sl10) (zs : List EntV) (sa : Sl10) (xs : List ActV13) (hz : HasE w sz zs) (hzl : sz.n ≤ 837723144948) (ha : HasA13 w sa xs) (hal : sa.n ≤ 140737488355328) :
    Calls Try.prog 6 #[.slice sz.p sz.n sz.c, .slice sa.p sa.n sa.c] w fun e w' => e = .returned (.bool true) ∧ Below w.heap.size w w' := by
  have HZ : Hid (HasE w sz zs) := hz
  have HA : Hid (HasA13 w sa xs) := ha
  have HLv : Hid (∀ (W : World), Below w.heap.size w W → Calls Try.prog 10 #[] W fun e w' => e = .returned (.bool true) ∧ Below w.heap.size w w') := fun W hW => (lives13_any W).mono fun e w' ⟨a, b⟩ => ⟨a, hW.trans (b.mono hW.size)⟩
  have kn := new13_any w 0 0 sz zs hz hzl (by unfold inI; exact ⟨by decide, by decide⟩)
  have hsz : sz.n ≤ sz.c := hz.c
  have hsa : sa.n ≤ sa.c := ha.c
  clear hz ha
  go_enter Try.func6, Try.ntmps6
  go_wp2_with fail
  refine kn.mono ?_
  intro e w2 hN
  clear kn
  cases ho : new13 0 0 (zs.map EntV.e) with
  | none =>
    rw [ho] at hN
    obtain rfl := hN.no rfl
    have hb := hN.bel
    clear hN
    go_wp2_with fail
    refine (HLv.out w2 hb).mono ?_
    rintro _ w3 ⟨rfl, hb3⟩
    go_wp2
    go_ret
    exact ⟨rfl, hb3⟩
  | some L0 =>
    rw [ho] at hN
    obtain ⟨b, rfl, -, hL⟩ := lg13_new (Below.refl _ _) hN
    have hsub := Sub13.new ho
    have kh := heavy13_any w2 sz zs (HZ.out.below hN.bel) (by omega)
    obtain ⟨hv, HV⟩ : ∃ r, Hid (heavy13 (zs.map EntV.e) = r) := ⟨_, rfl⟩
    rw [HV.out] at kh
    have HL2 : Hid (Lg13 w w2 b _ L0) := hL
    have HS : Hid (Sub13 (zs.map EntV.e) L0 ∧ L0.used = 0) := hsub
    clear hN hL hsub ho
    go_wp2_with fail
    refine kh.mono ?_
    rintro _ w3 ⟨rfl, hb3⟩
    have HL3 : Hid _ := HL2.out.below hb3
    clear kh hb3 HL2
    cases hv with
    | true =>
      go_wp2_with fail
      refine (HLv.out w3 HL3.out.bel).mono ?_
      rintro _ w4 ⟨rfl, hb4⟩
      go_wp2
      go_ret
      exact ⟨rfl, hb4⟩
    | false =>
      by_cases h200 : 200 < sa.n
      · go_wp2_with fail
        refine (HLv.out w3 HL3.out.bel).mono ?_
        rintro _ w4 ⟨rfl, hb4⟩
        go_wp2
        go_ret
        exact ⟨rfl, hb4⟩
      · have hz2 := heavy_len13 HV.out HZ.out
        have hend : L0.end ≤ 200 := by rw [HS.out.1.end, List.length_map, HZ.out.n]; omega
        have HAp : Hid (Ap13 w w3 b _ L0 (zs.map EntV.e)) := ⟨HL3.out, HS.out.1, hend⟩
        have hu0 : L0.used = 0 := HS.out.2
        have HU0 : Hid (L0.used + 1 = 1) := by rw [Hid, hu0]; rfl
        clear hend hu0 HS HL3 HV
        go_wp2
        go_loopw [6, 8, 27] (fun s6 s8 s27 wr => ∃ (j : Nat) (u : Int) (G : Nat → Prop) (L : LG), s6 = .int .i64 u ∧ s27 = .int .i64 (j : Nat) ∧ j ≤ sa.n ∧ Hid (Ap13 w wr b G L (zs.map EntV.e) ∧ u = L.used + 1)) (fun _ _ s27 _ => sa.n - (intOf s27).toNat)
        case atStart => exact ⟨0, 1, _, L0, rfl, rfl, Nat.zero_le _, HAp.out, HU0.out.symm⟩
        case round =>
          obtain ⟨j, u, G, L, rfl, rfl, hj, HR⟩ := hrel
          clear HAp HU0
          by_cases hjn : j < sa.n
          · have hbr := HR.out.1.lg.bel
            obtain ⟨ga, oa, hpa, hga, ⟨a0, a1, a2, a3⟩, hFa⟩ := (HA.out.below hbr).at hjn
            generalize xs.getD j noAV13 = a at *
            obtain ⟨k, n, m, sm, am⟩ := a
            dsimp only at a0 a1 a2 a3
            rw [hpa] at *
            have hbx := heap_alloc_new wr (.cells #[.int .i64 k, .int .i64 n, .int .i64 m, .slice sm.p sm.n sm.c] 29)
            have hB2 : Below wr.heap.size wr (wr.alloc (.cells #[.int .i64 k, .int .i64 n, .int .i64 m, .slice sm.p sm.n sm.c] 29)) := (Below.refl _ wr).alloc (Nat.le_refl _) _
            have HBX : Hid _ := hbx
            have HR2 : Hid (Ap13 w (wr.alloc (.cells #[.int .i64 k, .int .i64 n, .int .i64 m, .slice sm.p sm.n sm.c] 29)) b G L (zs.map EntV.e) ∧ u = L.used + 1) := ⟨⟨HR.out.1.lg.below hB2, HR.out.1.sub, HR.out.1.low⟩, HR.out.2⟩
            have hlx := box_lt hbx
            have y0 : (wr.alloc (.cells #[.int .i64 k, .int .i64 n, .int .i64 m, .slice sm.p sm.n sm.c] 29)).cell? ⟨wr.heap.size, 0, none⟩ = some (.int .i64 k) := box_cell hbx 0
            have y1 : (wr.alloc (.cells #[.int .i64 k, .int .i64 n, .int .i64 m, .slice sm.p sm.n sm.c] 29)).cell? ⟨wr.heap.size, 1, none⟩ = some (.int .i64 n) := box_cell hbx 1
            clear hbx hB2 hFa HR hbr
            go_upto_region 8 with fail
            generalize wr.alloc (.cells #[.int .i64 k, .int .i64 n, .int .i64 m, .slice sm.p sm.n sm.c] 29) = W2 at *
            obtain ⟨s2, es2, g2, hG2⟩ := HR2.out.1.lg.log
            clear a0 a1 a2 a3
            by_cases k2 : k = 2
            · subst k2
              have kc := commit13_any hG2 n
              clear hG2
              go_wp2_with fail
              refine kc.mono ?_
              rintro _ w5 ⟨rfl, hT⟩
              have hX : Ap13 w w5 b _ (L.commit n).2 (zs.map EntV.e) ∧ u = (L.commit n).2.used + 1 := ⟨⟨HR2.out.1.lg.turns hT, (HR2.out.1.sub.commit n).1, by rw [(HR2.out.1.sub.commit n).1.end, ← HR2.out.1.sub.end]; exact HR2.out.1.low⟩, by rw [(HR2.out.1.sub.commit n).2]; exact HR2.out.2⟩
              clear kc hT y0 y1 hlx HBX HR2
              generalize (L.commit n).2 = L5 at *
              generalize more8 G W2 w5 = G5 at *
              have HNX : Hid (Ap13 w w5 b G5 L5 (zs.map EntV.e) ∧ u = L5.used + 1) := hX
              obtain ⟨s5, es5, g5, hG5⟩ := HNX.out.1.lg.log
              have ku := used13_any hG5
              have wu : IntKind.i64.wrap (u - 1) = L5.used := by
                have hs0 := HNX.out.1.sub.inv.x0
                have hs1 := HNX.out.1.sub.inv.used
                have hs2 := HNX.out.1.sub.inv.done
                have hs3 := HNX.out.1.sub.inv.most
                have hs4 := HNX.out.1.low
                rw [IntKind.wrap_i64, HNX.out.2]; omega
              clear hG5 hX
              go_wp2_with fail
              refine same_mono ku ?_
              go_wp2
              go_roundw
              case rel => exact ⟨j + 1, u, G5, L5, rfl, by go_num, by omega, HNX⟩
              case measure => simp only [intOf]; omega
            have e2 : (k == 2) = false := by simpa using k2
            by_cases k4 : k = 4
            · subst k4
              have ka := apply13_any hG2 n
              obtain ⟨p1, p2, p3, p4, p5, p6⟩ := HR2.out.1.sub.apply n
              clear hG2
              go_wp2_with fail
              refine ka.mono ?_
              rintro _ w4 ⟨⟨ps, ns, cs⟩, ys, rfl, ho, hm, hT⟩
              have HAp5 : Hid (Ap13 w w4 b _ (L.apply n).2 (zs.map EntV.e)) := ⟨HR2.out.1.lg.turns hT, p1, by rw [p1.end, ← HR2.out.1.sub.end]; exact HR2.out.1.low⟩
              have hny : ys.length = ns := ho.fits.n
              have hncs : ns ≤ cs := ho.fits.c
              have HO : Hid (OwnsEs w4 W2.heap.size ⟨ps, ns, cs⟩ ys) := ho
              have HNy : Hid (ys.length = ns) := hny
              have HP : Hid (∀ q (hq : q < ns), (ys.getD q noEV).i = L.used + q + 1 ∧ (zs.getD (L.used + q).toNat noEV).e = (ys.getD q noEV).e ∧ (L.used + q).toNat < sz.n) := fun q hq => by
                have hql : q < (L.apply n).1.length := by rw [← hm, List.length_map, hny]; exact hq
                obtain ⟨r1, r2⟩ := p6 q hql
                have hqy : q < ys.length := by rw [hny]; exact hq
                have e1 : (ys.getD q noEV).e = (L.apply n).1[q] := by rw [map_getE hqy]; congr 1
                rw [← e1] at r1 r2
                obtain ⟨hlt, -⟩ := List.getElem?_eq_some_iff.1 r2
                rw [List.length_map] at hlt
                refine ⟨r1, ?_, by rw [← HZ.out.n]; exact hlt⟩
                rw [map_getE hlt]
                rw [List.getElem?_eq_getElem (by rw [List.length_map]; exact hlt)] at r2
                exact Option.some.inj r2
              have hlen : (L.apply n).1.length = ns := by rw [← hm, List.length_map, hny]
              rw [hlen] at p2 p3
              have HU : Hid (0 ≤ L.used ∧ (L.apply n).2.used = L.used + ns ∧ L.used + ns ≤ (L.apply n).2.done ∧ L.used + ns ≤ 200 ∧ u = L.used + 1) := ⟨p5, p2, by rw [p4]; exact p3, by have h7 := HR2.out.1.low; have h8 := HR2.out.1.sub.inv.most; omega, HR2.out.2⟩
              clear ka hT y0 y1 hlx HBX HR2 p1 p2 p3 p4 p5 p6 hm hlen ho hny
              have hns200 : ns ≤ 200 := by have := HU.out; omega
              generalize (L.apply n).2 = L5 at *
              generalize more8 G W2 w4 = G5 at *
              generalize L.used = uu at *
              generalize W2.heap.size = B2 at *
              go_wp2
              go_loopw [6, 10, 46] (fun s6 s10 s46 wq => ∃ (q : Nat) (nx : Int), s6 = .int .i64 nx ∧ s46 = .int .i64 (q : Nat) ∧ q ≤ ns ∧ Hid (nx = uu + q + 1) ∧ Hid (Ap13 w wq b G5 L5 (zs.map EntV.e) ∧ OwnsEs wq B2 ⟨ps, ns, cs⟩ ys)) (fun _ _ s46 _ => ns - (intOf s46).toNat)
              case atStart => exact ⟨0, u, rfl, rfl, Nat.zero_le _, by rw [Hid, HU.out.2.2.2.2]; omega, ⟨HAp5.out, HO.out⟩⟩
              case round =>
                obtain ⟨q, nx, rfl, rfl, hq, HNx, HI⟩ := hrel
                clear HAp5 HO
                by_cases hqn : q < ns
                · have hbr := HI.out.1.lg.bel
                  obtain ⟨gy, oy, hpy, hgy, hldy⟩ := HI.out.2.fits.ld hqn
                  obtain ⟨r1, r2, r3⟩ := HP.out q hqn
                  obtain ⟨t, ht⟩ : ∃ t : Nat, (uu + (q : Int)).toNat = t := ⟨_, rfl⟩
                  rw [ht] at r2 r3
                  obtain ⟨gz, oz, hpz, hgz, hldz⟩ := (HZ.out.below hbr).ld r3
                  have hFy : FitsE wr (ys.getD q noEV) := HI.out.2.fits.all _ (getD_memE (by rw [HNy.out]; exact hqn))
                  have hFz : FitsE wr (zs.getD t noEV) := (HZ.out.below hbr).all _ (getD_memE (by rw [HZ.out.n]; exact r3))
                  have HZl : Hid (∀ W, Below w.heap.size w W → (ldE (.pointer (some ⟨gz, oz + t * 13, none⟩))).run Try.prog W = .ok (.agg (zs.getD t noEV).arr) W) := fun W hW => by
                    obtain ⟨g', o', hp', -, hl'⟩ := (HZ.out.below hW).ld r3
                    rw [hpz] at hp'
                    cases hp'
                    exact hl'
                  dsimp only at hpy
                  have hsame : sameE10 (ys.getD q noEV).e (zs.getD t noEV).e = true := (sameE10_iff _ _).2 r2.symm
                  have HT0 : Hid (0 ≤ uu + (q : Int) ∧ uu + (q : Int) = t ∧ uu + (q : Int) ≤ 200) := ⟨by have := HU.out.1; omega, by have := HU.out.1; omega, by have := HU.out.2.2.2.1; omega⟩
                  have wt : IntKind.i64.wrap (nx - 1) = (t : Int) := by rw [IntKind.wrap_i64, HNx.out]; have := HT0.out; omega
                  have wt2 : IntKind.i64.wrap (nx + 1) = nx + 1 := by rw [IntKind.wrap_i64, HNx.out]; have := HT0.out; omega
                  have hdn : ¬ L5.done < nx := by rw [HNx.out]; have := HU.out.2.2.1; omega
                  have ryi : (ys.getD q noEV).i = nx := by rw [HNx.out]; exact r1
                  have hdn2 : decide (L5.done < nx) = false := decide_eq_false hdn
                  have hdn3 : (L5.done < nx) = False := eq_false hdn
                  clear hdn
                  generalize ys.getD q noEV = y at *
                  generalize zs.getD t noEV = z at *
                  subst hpy
                  rw [hpz] at *
                  have hbE := heap_alloc_new wr (.cells #[.int .i64 0, .int .i64 0, .int .i64 0, .int .i64 0, .int .i64 0, .int .i64 0, .string ⟨#[]⟩, .string ⟨#[]⟩, .string ⟨#[]⟩, .string ⟨#[]⟩, .int .i64 0, .slice none 0 0, .slice none 0 0] 51)
                  have hth := there_box hbE 0 13 (Nat.le_refl _)
                  have hst := stE_arr 0 y hth
                  have hbE2 := setE_box y hbE rfl
                  have hB3 : Below wr.heap.size wr ((wr.alloc (.cells #[.int .i64 0, .int .i64 0, .int .i64 0, .int .i64 0, .int .i64 0, .int .i64 0, .string ⟨#[]⟩, .string ⟨#[]⟩, .string ⟨#[]⟩, .string ⟨#[]⟩, .int .i64 0, .slice none 0 0, .slice none 0 0] 51)).setCells wr.heap.size 0 y.arr.toList) := setCells_below (Nat.le_refl _) _ _ ((Below.refl _ _).alloc (Nat.le_refl _) _)
                  have hl3 := box_lt hbE2
                  have HbE : Hid _ := hbE2
                  have HI3 : Hid (Ap13 w ((wr.alloc (.cells #[.int .i64 0, .int .i64 0, .int .i64 0, .int .i64 0, .int .i64 0, .int .i64 0, .string ⟨#[]⟩, .string ⟨#[]⟩, .string ⟨#[]⟩, .string ⟨#[]⟩, .int .i64 0, .slice none 0 0, .slice none 0 0] 51)).setCells wr.heap.size 0 y.arr.toList) b G5 L5 (zs.map EntV.e) ∧ OwnsEs ((wr.alloc (.cells #[.int .i64 0, .int .i64 0, .int .i64 0, .int .i64 0, .int .i64 0, .int .i64 0, .string ⟨#[]⟩, .string ⟨#[]⟩, .string ⟨#[]⟩, .string ⟨#[]⟩, .int .i64 0, .slice none 0 0, .slice none 0 0] 51)).setCells wr.heap.size 0 y.arr.toList) B2 ⟨some ⟨gy, oy, none⟩, ns, cs⟩ ys) := ⟨⟨HI.out.1.lg.below hB3, HI.out.1.sub, HI.out.1.low⟩, HI.out.2.below hB3⟩
                  have HFy : Hid (FitsE _ y) := hFy.below hB3
                  have HFz : Hid (FitsE _ z) := hFz.below hB3
                  clear hbE hbE2 hB3 HI hFy hFz hldz r1 r2
                  go_upto_region 15 with fail
                  generalize (wr.alloc (.cells #[.int .i64 0, .int .i64 0, .int .i64 0, .int .i64 0, .int .i64 0, .int .i64 0, .string ⟨#[]⟩, .string ⟨#[]⟩, .string ⟨#[]⟩, .string ⟨#[]⟩, .int .i64 0, .slice none 0 0, .slice none 0 0] 51)).setCells wr.heap.size 0 y.arr.toList = W3 at *
                  clear hldy hth hst
                  obtain ⟨s3, es3, g3, hG3⟩ := HI3.out.1.lg.log
                  have HKd : Hid (∀ W, Below W3.heap.size W3 W → Calls Try.prog 15 #[.pointer (some ⟨b, 0, none⟩)] W fun e w' => e = .returned (.int .i64 L5.done) ∧ w' = W) := fun W hW => done13_any (hG3.below hW)
                  have HKs : Hid (∀ W, Below W3.heap.size W3 W → Calls Try.prog 21 #[.agg y.arr, .agg z.arr] W fun e w' => e = .returned (.bool true) ∧ Below W.heap.size W w') := fun W hW => by
                    have := rsameE_any y z W (HFy.out.below hW).f (HFz.out.below hW).f
                    rw [hsame] at this
                    exact this
                  have HBw : Hid (Below w.heap.size w W3) := HI3.out.1.lg.bel
                  generalize hebx : wr.heap.size = eb at *
                  have KS : ∀ wB, Below W3.heap.size W3 wB → wB.cell? ⟨eb, 0, none⟩ = some (.int .i64 nx) ∧ (ldE (.pointer (some ⟨eb, 0, none⟩))).run Try.prog wB = .ok (.agg y.arr) wB ∧ (ldE (.pointer (some ⟨gz, oz + t * 13, none⟩))).run Try.prog wB = .ok (.agg z.arr) wB ∧ Below W3.heap.size W3 wB := fun wB hB => ⟨by rw [box_cell (box_below HbE.out hB) 0, ← ryi]; rfl, ldE_box _ _ _ _ _ (box_below HbE.out hB) rfl, HZl.out _ (HBw.out.trans (hB.mono HBw.out.size)), hB⟩
                  have HKS : Hid _ := KS
                  have s0 := KS _ (below_drew13 W3)
                  clear KS hG3
                  go_wp2_with fail
                  go_region_held3 (fun w' => w'.cell? ⟨eb, 0, none⟩ = some (.int .i64 nx) ∧ (ldE (.pointer (some ⟨eb, 0, none⟩))).run Try.prog w' = .ok (.agg y.arr) w' ∧ (ldE (.pointer (some ⟨gz, oz + t * 13, none⟩))).run Try.prog w' = .ok (.agg z.arr) w' ∧ Below W3.heap.size W3 w')
                    (first | exact s0 | assumption | exact HKS.out _ (kt13 (by assumption) (by assumption)))
                    (first
                      | (go_at_call 15; (with_reducible refine Calls.mono (HKd.out _ (kt13b (by assumption))) ?_); rintro _ wa ⟨rfl, rfl⟩)
                      | (go_at_call 21; (with_reducible refine Calls.mono (HKs.out _ (kt13b (by assumption))) ?_); rintro _ wb ⟨rfl, hbb⟩))
                  have HB9 : Hid (Below W3.heap.size W3 wb) := kt13b (by assumption)
                  have HI9 : Hid (Ap13 w wb b G5 L5 (zs.map EntV.e) ∧ OwnsEs wb B2 ⟨some ⟨gy, oy, none⟩, ns, cs⟩ ys) := ⟨⟨HI3.out.1.lg.below HB9.out, HI3.out.1.sub, HI3.out.1.low⟩, HI3.out.2.below HB9.out⟩
                  clear s0 hbb
                  go_wp2
                  go_roundw
                  case rel => exact ⟨q + 1, nx + 1, by go_num, by go_num, by omega, (by rw [Hid, HNx.out]; omega), HI9⟩
                  case measure => simp only [intOf]; omega
                · obtain rfl : q = ns := by omega
                  have hX : Ap13 w wr b G5 L5 (zs.map EntV.e) ∧ nx = L5.used + 1 := ⟨HI.out.1, by rw [HNx.out, HU.out.2.1]⟩
                  clear HI
                  have HNX : Hid (Ap13 w wr b G5 L5 (zs.map EntV.e) ∧ nx = L5.used + 1) := hX
                  obtain ⟨s5, es5, g5, hG5⟩ := HNX.out.1.lg.log
                  have ku := used13_any hG5
                  have wu : IntKind.i64.wrap (nx - 1) = L5.used := by
                    have hs0 := HNX.out.1.sub.inv.x0
                    have hs1 := HNX.out.1.sub.inv.used
                    have hs2 := HNX.out.1.sub.inv.done
                    have hs3 := HNX.out.1.sub.inv.most
                    have hs4 := HNX.out.1.low
                    rw [IntKind.wrap_i64, HNX.out.2]; omega
                  clear hG5 hX HNx
                  go_wp2_with fail
                  refine same_mono ku ?_
                  go_wp2
                  go_roundw
                  case rel => exact ⟨j + 1, nx, G5, L5, rfl, by go_num, by omega, HNX⟩
                  case measure => simp only [intOf]; omega
            have e4 : (k == 4) = false := by simpa using k4
            by_cases k5 : k = 5
            · subst k5
              have kc := compact13_any hG2 n
              clear hG2
              go_wp2_with fail
              refine kc.mono ?_
              rintro _ w5 ⟨rfl, hT⟩
              have hX : Ap13 w w5 b _ (L.compact n).2 (zs.map EntV.e) ∧ u = (L.compact n).2.used + 1 := ⟨⟨HR2.out.1.lg.turns hT, (HR2.out.1.sub.compact n).1, by rw [(HR2.out.1.sub.compact n).1.end, ← HR2.out.1.sub.end]; exact HR2.out.1.low⟩, by rw [(HR2.out.1.sub.compact n).2]; exact HR2.out.2⟩
              clear kc hT y0 y1 hlx HBX HR2
              generalize (L.compact n).2 = L5 at *
              generalize more8 G W2 w5 = G5 at *
              have HNX : Hid (Ap13 w w5 b G5 L5 (zs.map EntV.e) ∧ u = L5.used + 1) := hX
              obtain ⟨s5, es5, g5, hG5⟩ := HNX.out.1.lg.log
              have ku := used13_any hG5
              have wu : IntKind.i64.wrap (u - 1) = L5.used := by
                have hs0 := HNX.out.1.sub.inv.x0
                have hs1 := HNX.out.1.sub.inv.used
                have hs2 := HNX.out.1.sub.inv.done
                have hs3 := HNX.out.1.sub.inv.most
                have hs4 := HNX.out.1.low
                rw [IntKind.wrap_i64, HNX.out.2]; omega
              clear hG5 hX
              go_wp2_with fail
              refine same_mono ku ?_
              go_wp2
              go_roundw
              case rel => exact ⟨j + 1, u, G5, L5, rfl, by go_num, by omega, HNX⟩
              case measure => simp only [intOf]; omega
            have e5 : (k == 5) = false := by simpa using k5
            have HNX : Hid (Ap13 w W2 b G L (zs.map EntV.e) ∧ u = L.used + 1) := HR2
            have ku := used13_any hG2
            have wu : IntKind.i64.wrap (u - 1) = L.used := by
              have hs0 := HNX.out.1.sub.inv.x0
              have hs1 := HNX.out.1.sub.inv.used
              have hs2 := HNX.out.1.sub.inv.done
              have hs3 := HNX.out.1.sub.inv.most
              have hs4 := HNX.out.1.low
              rw [IntKind.wrap_i64, HNX.out.2]; omega
            clear hG2 HR2
            go_wp2_with fail
            refine same_mono ku ?_
            go_wp2
            go_roundw
            case rel => exact ⟨j + 1, u, G, L, rfl, by go_num, by omega, HNX⟩
            case measure => simp only [intOf]; omega
          · have hbr := HR.out.1.lg.bel
            clear HR
            go_wp2_with fail
            refine (HLv.out wr hbr).mono ?_
            rintro _ w4 ⟨rfl, hb4⟩
            go_wp2
            go_ret
            exact ⟨rfl, hb4⟩
theorem rlogApplies_row (w : World) (sz : Sl10) (zs : List EntV) (sa : Sl10) (xs : List ActV13) (hz : HasE w sz zs) (hzl : sz.n ≤ 837723144948) (ha : HasA13 w sa xs) (hal : sa.n ≤ 140737488355328) :
    Calls Try.prog 6 #[.slice sz.p sz.n sz.c, .slice sa.p sa.n sa.c] w fun e w' => e = .returned (.bool true) ∧ Below w.heap.size w w' := rlogApplies_walk w sz zs sa xs hz hzl ha hal
end Go.Proofs.Ytkfejicgabdflaa
