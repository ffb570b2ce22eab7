import Derived.Test.YtephoegcpjdglaaLjMTo
import Derived.Test.YtephoegcpjdglaaLxTo
import Derived.Deep.DeepCutAuto
namespace Go.Proofs.Ytephoegcpjdglaa
open Go.RowKit Go.Shelf
attribute [local go_sem ↓] ldE_exec stE_exec ldE_execI stE_execI ldE_run ldE_box ldC_exec stC_exec ldC_execI stC_execI ldC_run oc_int oc_bool oc_string oc_slice oc_pointer
def zeroLG : LG := ⟨0, 0, [], 0, 0, 0⟩
theorem rf_zero13 {w0 w : World} (hb : Below w0.heap.size w0 w) : RfG w0 (w.alloc (.cells #[.int .i64 0, .int .i64 0, .slice none 0 0, .int .i64 0, .int .i64 0, .int .i64 0] 38)) w.heap.size (fun _ => False) nilS10 [] zeroLG := by
  have hB := (Below.refl _ w).alloc (Nat.le_refl _) (.cells #[.int .i64 0, .int .i64 0, .slice none 0 0, .int .i64 0, .int .i64 0, .int .i64 0] 38)
  have hbx := heap_alloc_new w (.cells #[.int .i64 0, .int .i64 0, .slice none 0 0, .int .i64 0, .int .i64 0, .int .i64 0] 38)
  refine ⟨hbx, rfl, Nat.le_refl _, fun _ => rfl, (fun h => absurd h (Nat.lt_irrefl 0)), (fun _ h => by cases h), hb.trans (hB.mono hb.size), fun k hk => ?_, rfl, ⟨Int.le_refl _, Int.le_refl _, rfl, Int.le_refl _, Int.le_refl _, Int.le_refl _, Int.le_refl _, Int.le_refl _⟩, by decide, by decide⟩
  rcases hk with rfl | hk
  · exact ⟨hb.size, box_lt hbx⟩
  · exact hk.elim
theorem duo_zero13 {w0 w : World} {b : Nat} {G : Nat → Prop} {L : LG} (h : Lg13 w0 w b G L) : Duo13 w0 (w.alloc (.cells #[.int .i64 0, .int .i64 0, .slice none 0 0, .int .i64 0, .int .i64 0, .int .i64 0] 38)) (w.alloc (.cells #[.int .i64 0, .int .i64 0, .slice none 0 0, .int .i64 0, .int .i64 0, .int .i64 0] 38)) (fun _ => False) b G L w.heap.size (fun _ => False) zeroLG := by
  refine ⟨h.below ((Below.refl _ w).alloc (Nat.le_refl _) _), ⟨_, _, rf_zero13 h.bel⟩, fun k hk hk2 => ?_, Nat.le_refl _, fun _ hk => hk.elim⟩
  rcases hk2 with rfl | hk2
  · rcases hk with hk | hk
    · have := h.lt; omega
    · have := (h.own _ hk).2; omega
  · exact hk2
structure Kp13 (w wB wr : World) (b : Nat) (G : Nat → Prop) (L : LG) (r : Nat) (H : Nat → Prop) (M : LG) (nn : Nat) : Prop where
  duo : Duo13 w wB wr (fun _ => False) b G L r H M
  nil : M.l = []
  len : L.l.length ≤ 200 + nn
  top : L.end ≤ 1099511628000 + nn
theorem HasA13.get {W : World} {s : Sl10} {l : List ActV13} (h : HasA13 W s l) {j : Nat} (hj : j < s.n) : ∃ b o, s.p = some ⟨b, o, none⟩ ∧ b < W.heap.size ∧ (W.cell? ⟨b, o + j * 4, none⟩ = some (.int .i64 (l.getD j noAV13).k) ∧ W.cell? ⟨b, o + j * 4 + 1, none⟩ = some (.int .i64 (l.getD j noAV13).n) ∧ W.cell? ⟨b, o + j * 4 + 2, none⟩ = some (.int .i64 (l.getD j noAV13).m) ∧ W.cell? ⟨b, o + j * 4 + 3, none⟩ = some (.slice (l.getD j noAV13).w.p (l.getD j noAV13).w.n (l.getD j noAV13).w.c)) ∧ FitsA13 W (l.getD j noAV13) := by
  obtain ⟨b, o, hp, hlt, hc⟩ := h.at' (by omega)
  refine ⟨b, o, hp, hlt, ⟨hc j hj 0 (by decide), hc j hj 1 (by decide), hc j hj 2 (by decide), hc j hj 3 (by decide)⟩, h.all _ ?_⟩
  have hl : j < l.length := by rw [h.n]; exact hj
  rw [List.getD_eq_getElem?_getD, List.getElem?_eq_getElem hl]
  exact List.getElem_mem hl
theorem Kp13.below {w wB wr w' : World} {b r nn : Nat} {G H : Nat → Prop} {L M : LG} (h : Kp13 w wB wr b G L r H M nn) (hb : Below wr.heap.size wr w') : Kp13 w wB w' b G L r H M nn := ⟨h.duo.below hb, h.nil, h.len, h.top⟩
theorem Kp13.add {w wB wr : World} {b r nn k : Nat} {G H : Nat → Prop} {L M : LG} (h : Kp13 w wB wr b G L r H M nn) : Kp13 w wB wr b G L r H M (nn + k) := ⟨h.duo, h.nil, by have := h.len; omega, by have := h.top; omega⟩
theorem kz13a {w wA wB : World} {A B C : Prop} (h : A ∧ B ∧ C ∧ Below w.heap.size w wA) (hb : Below wA.heap.size wA wB) : Below w.heap.size w wB := h.2.2.2.trans (hb.mono h.2.2.2.size)
theorem kz13b {w wA : World} {A B C : Prop} (h : A ∧ B ∧ C ∧ Below w.heap.size w wA) : Below w.heap.size w wA := h.2.2.2
theorem one_map13 {zs : List EntV} {a : Ent10} (h : zs.map EntV.e = [a]) : ∃ z, zs = [z] ∧ z.e = a := by
  match zs, h with
  | [z], h => exact ⟨z, rfl, by simpa using h⟩
theorem len_ents13 {es : List EntV} {s : Sl10} {w : World} (h : HasE w s es) : (es.map EntV.e).length = s.n := by rw [List.length_map]; exact h.n
set_option maxRecDepth 100000 in
set_option maxHeartbeats 8000000 in
theorem rlogKeeps_walk (w : World) (x : BegV) (sa : Sl10) (xs : List ActV13) (hx : FitsB13 w x) (ha : HasA13 w sa xs) (hal : sa.n ≤ 140737488355328) :
    Calls Try.prog 4 #[.agg x.arr, .slice sa.p sa.n sa.c] w fun e w' => e = .returned (.bool true) ∧ Below w.heap.size w w' := by
  have hB1 : Below w.heap.size w (w.alloc (.cells x.arr 24)) := (Below.refl _ w).alloc (Nat.le_refl _) _
  have hbx := heap_alloc_new w (.cells x.arr 24)
  have b0 : (w.alloc (.cells x.arr 24)).cell? ⟨w.heap.size, 0, none⟩ = some (.int .i64 x.i) := box_cell hbx 0
  have b1 : (w.alloc (.cells x.arr 24)).cell? ⟨w.heap.size, 1, none⟩ = some (.int .i64 x.t) := box_cell hbx 1
  have b2 : (w.alloc (.cells x.arr 24)).cell? ⟨w.heap.size, 2, none⟩ = some (.slice x.w.p x.w.n x.w.c) := box_cell hbx 2
  have hlt := box_lt hbx
  have hx1 := hx.below hB1
  have kn := new13_any _ x.i x.t x.w x.es hx1.e hx1.l hx1.i
  have HB1 : Hid _ := hB1
  have HBX : Hid _ := hbx
  have HX : Hid (FitsB13 w x) := hx
  have HA : Hid (HasA13 w sa xs) := ha
  have hsa : sa.n ≤ sa.c := ha.c
  have HLv : Hid (∀ (W : World), Below w.heap.size w W → Calls Try.prog 6 #[] W fun e w' => e = .returned (.bool true) ∧ Below w.heap.size w w') := fun W hW => (lives13_any W).mono fun e w' ⟨a, b⟩ => ⟨a, hW.trans (b.mono hW.size)⟩
  have HKr : Hid (∀ (W : World), Below w.heap.size w W → Calls Try.prog 8 #[.int .i64 x.i, .int .i64 x.t, .slice x.w.p x.w.n x.w.c] W fun e w' => ∃ v, e = .returned v ∧ RNew13 w W (new13 x.i x.t (x.es.map EntV.e)) v w') := fun W hW => rnew13_any hW x.i x.t (HX.out.e.below hW) (fun e he => HX.out.e.all e he) HX.out.l HX.out.i
  clear hB1 hbx hx hx1 ha
  go_enter Try.func4, Try.ntmps4
  go_wp2_with fail
  generalize w.alloc (.cells x.arr 24) = W1 at *
  refine kn.mono ?_
  intro e w2 hN
  clear kn b0 b1 b2 hlt
  have HBX2 : Hid _ := box_below HBX.out hN.bel
  have HB2 : Hid (Below w.heap.size w w2) := HB1.out.trans (hN.bel.mono HB1.out.size)
  have HTail : Hid (∀ W, Below w2.heap.size w2 W → W.cell? ⟨w.heap.size, 0, none⟩ = some (.int .i64 x.i) ∧ W.cell? ⟨w.heap.size, 1, none⟩ = some (.int .i64 x.t) ∧ W.cell? ⟨w.heap.size, 2, none⟩ = some (.slice x.w.p x.w.n x.w.c) ∧ w.heap.size < W.heap.size) := fun W hW => ⟨box_cell (box_below HBX2.out hW) 0, box_cell (box_below HBX2.out hW) 1, box_cell (box_below HBX2.out hW) 2, box_lt (box_below HBX2.out hW)⟩
  cases ho : new13 x.i x.t (x.es.map EntV.e) with
  | none =>
    rw [ho] at hN HKr
    obtain rfl := hN.no rfl
    obtain ⟨c0, c1, c2, hlt⟩ := HTail.out w2 (Below.refl _ _)
    clear hN
    go_wp2_with fail
    refine (HKr.out w2 HB2.out).mono ?_
    rintro _ w3 ⟨v, rfl, hR⟩
    obtain rfl := hR.no rfl
    have hb3 : Below w.heap.size w w3 := HB2.out.trans (hR.bel.mono HB2.out.size)
    clear hR c0 c1 c2 hlt
    go_wp2_with fail
    refine (HLv.out w3 hb3).mono ?_
    rintro _ w4 ⟨rfl, hb4⟩
    go_wp2
    go_ret
    exact ⟨rfl, hb4⟩
  | some L0 =>
    rw [ho] at hN HKr
    obtain ⟨b, rfl, -, hL⟩ := lg13_new HB1.out hN
    obtain ⟨hI0, hL0⟩ := new_inv13 ho
    have hi0 : x.i ≤ 1099511627776 := by
      unfold new13 at ho
      split at ho
      · rename_i hc; exact hc.2.1
      · cases ho
    have HL : Hid _ := hL
    obtain ⟨c0, c1, c2, hlt⟩ := HTail.out w2 (Below.refl _ _)
    have kh := heavy13_any w2 x.w x.es (HX.out.e.below HB2.out) (by have := HX.out.l; omega)
    obtain ⟨hv, HV⟩ : ∃ r, Hid (heavy13 (x.es.map EntV.e) = r) := ⟨_, rfl⟩
    rw [HV.out] at kh
    clear hN hL
    go_wp2_with fail
    refine kh.mono ?_
    rintro _ w3 ⟨rfl, hb3⟩
    have HL3 : Hid _ := HL.out.below hb3
    clear kh c0 c1 c2 hlt HL
    obtain ⟨c0, c1, c2, hlt⟩ := HTail.out w3 hb3
    clear hb3
    cases hv with
    | true =>
      go_wp2_with fail
      refine (HKr.out w3 HL3.out.bel).mono ?_
      rintro _ w4 ⟨v, rfl, hR⟩
      obtain ⟨r, rfl, -⟩ := hR.yes L0 rfl
      have hb4 : Below w.heap.size w w4 := HL3.out.bel.trans (hR.bel.mono HL3.out.bel.size)
      clear hR c0 c1 c2 hlt
      go_wp2_with fail
      refine (HLv.out w4 hb4).mono ?_
      rintro _ w5 ⟨rfl, hb5⟩
      go_wp2
      go_ret
      exact ⟨rfl, hb5⟩
    | false =>
      by_cases h200 : 200 < sa.n
      · go_wp2_with fail
        refine (HKr.out w3 HL3.out.bel).mono ?_
        rintro _ w4 ⟨v, rfl, hR⟩
        obtain ⟨r, rfl, -⟩ := hR.yes L0 rfl
        have hb4 : Below w.heap.size w w4 := HL3.out.bel.trans (hR.bel.mono HL3.out.bel.size)
        clear hR c0 c1 c2 hlt
        go_wp2_with fail
        refine (HLv.out w4 hb4).mono ?_
        rintro _ w5 ⟨rfl, hb5⟩
        go_wp2
        go_ret
        exact ⟨rfl, hb5⟩
      · have hz2 := heavy_len13 HV.out HX.out.e
        have hD := duo_zero13 HL3.out
        have hl0 : L0.l.length ≤ 200 + 0 := by
          rw [hL0]
          show (x.es.map EntV.e).length ≤ 200 + 0
          rw [len_ents13 HX.out.e]; omega
        have ht0 : L0.end ≤ 1099511628000 + (0 : Nat) := by
          have h1 : L0.ix = x.i := by rw [hL0]
          unfold LG.end
          omega
        have HK : Hid (Kp13 w _ _ b _ L0 _ _ zeroLG 0) := ⟨hD, rfl, hl0, ht0⟩
        clear hD hl0 ht0 hi0 hI0 hL0 ho HL3 HV HTail HKr HBX2 HB2 HBX HB1 c0 c1 c2 hlt hz2
        go_upto_region 6 with fail
        generalize w3.alloc (.cells #[.int .i64 0, .int .i64 0, .slice none 0 0, .int .i64 0, .int .i64 0, .int .i64 0] 38) = W4 at *
        generalize w3.heap.size = r at *
        go_wp2
        go_loopw [7, 59] (fun s7 s59 wr => ∃ (j nn : Nat) (G : Nat → Prop) (L : LG) (H : Nat → Prop) (M : LG), s7 = .int .i64 (nn : Nat) ∧ s59 = .int .i64 (j : Nat) ∧ j ≤ sa.n ∧ nn ≤ 300 ∧ Hid (Kp13 w W4 wr b G L r H M nn)) (fun _ s59 _ => sa.n - (intOf s59).toNat)
        case atStart => exact ⟨0, 0, _, L0, _, zeroLG, rfl, rfl, Nat.zero_le _, Nat.zero_le _, HK⟩
        case round =>
          obtain ⟨j, nn, G, L, H, M, rfl, rfl, hj, hnn, HR⟩ := hrel
          clear HK
          by_cases hjn : j < sa.n
          · obtain ⟨ga, oa, hpa, hga, ⟨a0, a1, a2, a3⟩, -⟩ := (HA.out.below HR.out.duo.bel).get hjn
            obtain ⟨-, -, -, -, -, hFA⟩ := HA.out.get hjn
            generalize xs.getD j noAV13 = a at *
            obtain ⟨k, n, m, sm, am⟩ := a
            dsimp only at a0 a1 a2 a3
            rw [hpa] at *
            have hbx := heap_alloc_new wr (.cells #[.int .i64 k, .int .i64 n, .int .i64 m, .slice sm.p sm.n sm.c] 29)
            have hB2 : Below wr.heap.size wr (wr.alloc (.cells #[.int .i64 k, .int .i64 n, .int .i64 m, .slice sm.p sm.n sm.c] 29)) := (Below.refl _ wr).alloc (Nat.le_refl _) _
            have HR2 : Hid (Kp13 w W4 (wr.alloc (.cells #[.int .i64 k, .int .i64 n, .int .i64 m, .slice sm.p sm.n sm.c] 29)) b G L r H M nn) := HR.out.below hB2
            have HBX : Hid _ := hbx
            have HFA : Hid (FitsA13 w ⟨k, n, m, sm, am⟩) := hFA
            have hlx := box_lt hbx
            have y3 : (wr.alloc (.cells #[.int .i64 k, .int .i64 n, .int .i64 m, .slice sm.p sm.n sm.c] 29)).cell? ⟨wr.heap.size, 3, none⟩ = some (.slice sm.p sm.n sm.c) := box_cell hbx 3
            have hw : IntKind.i64.wrap ((nn : Int) + (sm.n : Int)) = (nn : Int) + (sm.n : Int) := by
              have h1 : sm.n ≤ 837723144948 := hFA.l
              rw [IntKind.wrap_i64]; omega
            clear hbx hB2 hFA HR
            go_upto_region 9 with fail
            generalize wr.alloc (.cells #[.int .i64 k, .int .i64 n, .int .i64 m, .slice sm.p sm.n sm.c] 29) = W2 at *
            generalize wr.heap.size = ab at *
            clear a0 a1 a2 a3
            have kh := heavy13_any W2 sm am (HFA.out.e.below HR2.out.duo.bel) (by have h1 : sm.n ≤ 837723144948 := HFA.out.l; omega)
            obtain ⟨hv, HV⟩ : ∃ r, Hid (heavy13 (am.map EntV.e) = r) := ⟨_, rfl⟩
            rw [HV.out] at kh
            go_wp2_with fail
            refine kh.mono ?_
            rintro _ w5 ⟨rfl, hb5⟩
            have HR5 : Hid _ := HR2.out.below hb5
            have hbx5 := box_below HBX.out hb5
            have HBX5 : Hid _ := hbx5
            clear kh hb5 y3 hlx HBX HR2
            cases hv with
            | true =>
              go_wp2_with fail
              refine (HLv.out w5 HR5.out.duo.bel).mono ?_
              rintro _ w6 ⟨rfl, hb6⟩
              go_wp2
              go_ret
              exact ⟨rfl, hb6⟩
            | false =>
              by_cases h300 : 300 < nn + sm.n
              · go_wp2_with fail
                refine (HLv.out w5 HR5.out.duo.bel).mono ?_
                rintro _ w6 ⟨rfl, hb6⟩
                go_wp2
                go_ret
                exact ⟨rfl, hb6⟩
              · have y0 : w5.cell? ⟨ab, 0, none⟩ = some (.int .i64 k) := box_cell hbx5 0
                have hlx := box_lt hbx5
                clear hbx5
                by_cases k6 : k = 6
                · subst k6
                  have HN : Hid (Kp13 w W4 w5 b G L r H M (nn + sm.n)) := HR5.out.add
                  clear HR5
                  go_wp2
                  go_roundw
                  case rel => exact ⟨j + 1, nn + sm.n, G, L, H, M, by go_num, by go_num, by omega, by omega, HN⟩
                  case measure => simp only [intOf]; omega
                have e6 : (k == 6) = false := by simpa using k6
                obtain ⟨s5, es5, g5, hG5⟩ := HR5.out.duo.one.log
                have kd := done13_any hG5
                have kb := base13_any hG5
                have HI : Hid (L.Inv) := hG5.inv
                have hi1 := hG5.inv.x0
                have hi2 := hG5.inv.used
                have hi3 := hG5.inv.done
                have hi4 := hG5.inv.most
                have hi5 := HR5.out.top
                have w1 : IntKind.i64.wrap (L.ix + 1) = L.ix + 1 := by rw [IntKind.wrap_i64]; omega
                have w2' : IntKind.i64.wrap (L.done - L.ix) = L.done - L.ix := by rw [IntKind.wrap_i64]; omega
                clear hG5 hi1 hi2 hi3 hi4 hi5
                go_wp2_with fail
                refine same_mono kd ?_
                go_wp2_with fail
                refine kb.mono ?_
                rintro _ w6 ⟨rfl, hb6⟩
                have HR6 : Hid _ := HR5.out.below hb6
                have HBX6 : Hid _ := box_below HBX5.out hb6
                have ks := lslice13 HR6.out.duo (L.ix + 1) (L.done - L.ix)
                clear kd kb hb6 HR5 HBX5 y0 hlx
                go_wp2_with fail
                refine ks.mono ?_
                rintro _ w7 ⟨⟨pk, nk, ck⟩, ys, rfl, ho, hm, hsn, hb7, hDz⟩
                dsimp only at hsn
                obtain ⟨F, HF⟩ : ∃ F : Nat → Prop, Hid (F = fun k => False ∨ w6.heap.size ≤ k ∧ k < w7.heap.size) := ⟨_, rfl⟩
                have hD7 := HR6.out.duo.more hb7
                have hRK : RowG w7 (fun k => False ∨ w6.heap.size ≤ k ∧ k < w7.heap.size) ⟨pk, nk, ck⟩ ys := RowG.of_owns ho.row (fun k h1 h2 => .inr ⟨h1, h2⟩) fun e he => EntG.of_owns (ho.all e he) fun k h1 h2 => .inr ⟨h1, h2⟩
                rw [← HF.out] at hD7 hRK
                have HD7 : Hid (Duo13 w w7 w7 F b G L r H M) := hD7
                have HRK : Hid (RowG w7 F ⟨pk, nk, ck⟩ ys) := hRK
                have HM7 : Hid (ys.map EntV.e = L.slice (L.ix + 1) (L.done - L.ix) ∧ ys.length = nk) := ⟨hm, hRK.n⟩
                have hkc : nk ≤ ck := hRK.c
                have HBX7 : Hid _ := box_below HBX6.out hb7
                have HP7 : Hid (M.l = [] ∧ L.l.length ≤ 200 + nn ∧ L.end ≤ 1099511628000 + nn) := ⟨HR6.out.nil, HR6.out.len, HR6.out.top⟩
                have HZ7 : Hid (W4.heap.size ≤ w7.heap.size) := hDz.sz
                clear hDz ks ho hm hb7 hD7 hRK HR6 HBX6 w1 w2' HF
                have y0 : w7.cell? ⟨ab, 0, none⟩ = some (.int .i64 k) := box_cell HBX7.out 0
                have y1 : w7.cell? ⟨ab, 1, none⟩ = some (.int .i64 n) := box_cell HBX7.out 1
                have y2 : w7.cell? ⟨ab, 2, none⟩ = some (.int .i64 m) := box_cell HBX7.out 2
                have y3 : w7.cell? ⟨ab, 3, none⟩ = some (.slice sm.p sm.n sm.c) := box_cell HBX7.out 3
                have hlx := box_lt HBX7.out
                dsimp only
                iterate 8 go_step
                go_cut [10] (fun t wc => t = .int .i64 L.done ∧ ∃ (G' : Nat → Prop) (L' : LG) (H' : Nat → Prop) (M' : LG), Hid (Duo13 w w7 wc F b G' L' r H' M' ∧ M'.l = [] ∧ Keep13 L L' sm.n))
                case first =>
                  by_cases k1 : k = 1
                  · subst k1
                    have kmt := lmatch13 HD7.out n m sm am HFA.out.e HFA.out.n (by have h1 := HP7.out.2.1; omega) (by have h1 := HP7.out.2.2; omega)
                    have HKm : Hid (Keep13 L (L.match_ n m (am.map EntV.e)).2 sm.n) := ⟨LG.keeps_match L n m _, by have h1 := LG.end_match (L := L) n m (am.map EntV.e); rw [len_ents13 HFA.out.e] at h1; exact h1⟩
                    go_wp2_with fail
                    refine kmt.mono ?_
                    rintro _ w8 ⟨rfl, G', hD8⟩
                    have HX : Hid (Duo13 w w7 w8 F b G' (L.match_ n m (am.map EntV.e)).2 r H M ∧ M.l = [] ∧ Keep13 L (L.match_ n m (am.map EntV.e)).2 sm.n) := ⟨hD8, HP7.out.1, HKm.out⟩
                    clear kmt hD8
                    go_wp2
                    go_meet
                    case rel => exact ⟨rfl, _, _, _, _, HX⟩
                  have e1 : (k == 1) = false := by simpa using k1
                  by_cases k0 : k = 0
                  · subst k0
                    have hsc : sm.n ≤ sm.c := HFA.out.e.c
                    have HS7 : Hid (Duo13 w w7 w7 F b G L r H M ∧ Keep13 L L 0) := ⟨HD7.out, ⟨.refl L, by simp⟩⟩
                    go_wp2
                    go_loopw [114] (fun s114 wr => ∃ (q : Nat) (G' : Nat → Prop) (L' : LG), s114 = .int .i64 (q : Nat) ∧ q ≤ sm.n ∧ Hid (Duo13 w w7 wr F b G' L' r H M ∧ Keep13 L L' q)) (fun s114 _ => sm.n - (intOf s114).toNat)
                    case atStart => exact ⟨0, G, L, rfl, Nat.zero_le _, HS7⟩
                    case round =>
                      obtain ⟨q, G', L', rfl, hq, HQ⟩ := hrel
                      clear HS7
                      by_cases hqn : q < sm.n
                      · obtain ⟨g, o, hp, hg, hld⟩ := (HFA.out.e.below HQ.out.1.bel).ld hqn
                        have HFe : Hid (FitsE w (am.getD q noEV)) := HFA.out.e.all _ (getD_memE (by rw [HFA.out.e.n]; exact hqn))
                        dsimp only at hp
                        generalize am.getD q noEV = e at *
                        rw [hp] at *
                        have hbE := heap_alloc_new wr (.cells #[.int .i64 0, .int .i64 0, .int .i64 0, .int .i64 0, .int .i64 0, .int .i64 0, .string ⟨#[]⟩, .string ⟨#[]⟩, .string ⟨#[]⟩, .string ⟨#[]⟩, .int .i64 0, .slice none 0 0, .slice none 0 0] 51)
                        have hth := there_box hbE 0 13 (Nat.le_refl _)
                        have hst := stE_arr 0 e hth
                        have hbE2 := setE_box e hbE rfl
                        have hBE : Below wr.heap.size wr ((wr.alloc (.cells #[.int .i64 0, .int .i64 0, .int .i64 0, .int .i64 0, .int .i64 0, .int .i64 0, .string ⟨#[]⟩, .string ⟨#[]⟩, .string ⟨#[]⟩, .string ⟨#[]⟩, .int .i64 0, .slice none 0 0, .slice none 0 0] 51)).setCells wr.heap.size 0 e.arr.toList) := setCells_below (Nat.le_refl _) _ _ ((Below.refl _ _).alloc (Nat.le_refl _) _)
                        have hlE := box_lt hbE2
                        have HbE : Hid _ := hbE2
                        have HQ2 : Hid (Duo13 w w7 ((wr.alloc (.cells #[.int .i64 0, .int .i64 0, .int .i64 0, .int .i64 0, .int .i64 0, .int .i64 0, .string ⟨#[]⟩, .string ⟨#[]⟩, .string ⟨#[]⟩, .string ⟨#[]⟩, .int .i64 0, .slice none 0 0, .slice none 0 0] 51)).setCells wr.heap.size 0 e.arr.toList) F b G' L' r H M ∧ Keep13 L L' q) := ⟨HQ.out.1.below hBE, HQ.out.2⟩
                        have hldE := ldE_box _ _ _ _ _ hbE2 rfl
                        clear hbE hBE HQ
                        have ka := lappend13 HQ2.out.1 e HFe.out (by have h1 := HQ2.out.2.len; have h2 := HP7.out.2.1; omega) (by have h1 := HQ2.out.2.top; have h2 := HP7.out.2.2; omega)
                        have HKa : Hid (Keep13 L (L'.app e.e).2 (q + 1)) := ⟨HQ2.out.2.keeps.trans (LG.keeps_app HQ2.out.1.inv e.e), by have h1 := HQ2.out.2.top; have h2 := LG.end_app L' e.e; omega⟩
                        go_wp2_with fail
                        generalize (wr.alloc (.cells #[.int .i64 0, .int .i64 0, .int .i64 0, .int .i64 0, .int .i64 0, .int .i64 0, .string ⟨#[]⟩, .string ⟨#[]⟩, .string ⟨#[]⟩, .string ⟨#[]⟩, .int .i64 0, .slice none 0 0, .slice none 0 0] 51)).setCells wr.heap.size 0 e.arr.toList = W2 at *
                        refine ka.mono ?_
                        rintro _ w8 ⟨rfl, G2, hD8⟩
                        have HX : Hid (Duo13 w w7 w8 F b G2 (L'.app e.e).2 r H M ∧ Keep13 L (L'.app e.e).2 (q + 1)) := ⟨hD8, HKa.out⟩
                        clear ka hD8 hld hth hst hldE HQ2 HbE
                        go_wp2
                        go_roundw
                        case rel => exact ⟨q + 1, G2, _, by go_num, by omega, HX⟩
                        case measure => simp only [intOf]; omega
                      · obtain rfl : q = sm.n := by omega
                        have HX : Hid (Duo13 w w7 wr F b G' L' r H M ∧ M.l = [] ∧ Keep13 L L' sm.n) := ⟨HQ.out.1, HP7.out.1, HQ.out.2⟩
                        clear HQ
                        go_wp2
                        go_meet
                        case rel => exact ⟨rfl, _, _, _, _, HX⟩
                  · have e0 : (k == 0) = false := by simpa using k0
                    have kA := actS_13 HD7.out (.inr HP7.out.1) ⟨k, n, m, sm, am⟩ HFA.out.n k0 k1 k6
                    have HKA : Hid ((M.acted13 k n).l = [] ∧ Keep13 L (L.acted13 k n) sm.n) := ⟨LG.acted_nil HP7.out.1 k n, ⟨(LG.acted_keeps HI.out k n).1, by have h1 := (LG.acted_keeps HI.out k n).2; omega⟩⟩
                    unfold ActV13.arr at kA
                    dsimp only at kA
                    go_wp2_with fail
                    refine kA.mono ?_
                    rintro e w8 ⟨q, rfl, -, G2, H2, hD8⟩
                    have HX : Hid (Duo13 w w7 w8 F b G2 (L.acted13 k n) r H2 (M.acted13 k n) ∧ (M.acted13 k n).l = [] ∧ Keep13 L (L.acted13 k n) sm.n) := ⟨hD8, HKA.out⟩
                    clear kA hD8
                    go_wp2
                    go_meet
                    case rel => exact ⟨rfl, _, _, _, _, HX⟩
                case rest =>
                  obtain ⟨rfl, G', L', H', M', HC⟩ := hcut
                  have HI' : Hid L'.Inv := HC.out.1.inv
                  obtain ⟨s8, es8, g8, hG8⟩ := HC.out.1.one.log
                  have kb := base13_any hG8
                  clear hG8 y0 y1 y2 y3 hlx
                  go_wp2_with fail
                  refine kb.mono ?_
                  rintro _ w9 ⟨rfl, hb9⟩
                  have HC9 : Hid (Duo13 w w7 w9 F b G' L' r H' M' ∧ M'.l = [] ∧ Keep13 L L' sm.n) := ⟨HC.out.1.below hb9, HC.out.2⟩
                  clear kb hb9 HC
                  obtain ⟨s9, es9, g9, hG9⟩ := HC9.out.1.one.log
                  have kd := done13_any hG9
                  have ku := used13_any hG9
                  have c1 : ¬ L'.done < L.done := by have := HC9.out.2.2.keeps.done; omega
                  have c2 : ¬ L'.done < L'.used := by have := HI'.out.done; omega
                  have c3 : ¬ L'.used < L'.ix := by have := HI'.out.used; omega
                  have v1 : IntKind.i64.wrap (L'.ix + 1) = L'.ix + 1 := by
                    have h1 := HI'.out.x0
                    have h2 := HI'.out.used
                    have h3 := HI'.out.done
                    have h4 := HI'.out.most
                    have h5 := HC9.out.2.2.top
                    have h6 := HP7.out.2.2
                    rw [IntKind.wrap_i64]; omega
                  clear hG9
                  go_wp2_with fail
                  refine same_mono kd ?_
                  go_wp2_with fail
                  refine same_mono ku ?_
                  go_wp2_with fail
                  refine same_mono kd ?_
                  go_wp2_with fail
                  refine same_mono ku ?_
                  clear kd ku
                  go_wp2
                  go_loopw [146] (fun s146 wr => ∃ q : Nat, s146 = .int .i64 (q : Nat) ∧ q ≤ nk ∧ Hid (Duo13 w w7 wr F b G' L' r H' M')) (fun s146 _ => nk - (intOf s146).toNat)
                  case atStart => exact ⟨0, rfl, Nat.zero_le _, HC9.out.1⟩
                  case round =>
                    obtain ⟨q, rfl, hq, HQ⟩ := hrel
                    by_cases hqn : q < nk
                    · have hEr : HasE wr ⟨pk, nk, ck⟩ ys := (HRK.out.stay HQ.out.stay HQ.out.stay).has
                      obtain ⟨g, o, hp, hg, hld⟩ := hEr.ld hqn
                      have hFe : FitsE wr (ys.getD q noEV) := hEr.all _ (getD_memE (by rw [HM7.out.2]; exact hqn))
                      have HKq : Hid ((ys.getD q noEV).i = L.ix + q + 1 ∧ (L'.ix < (ys.getD q noEV).i → L'.slice (ys.getD q noEV).i 1 = [(ys.getD q noEV).e])) := by
                        have hlq : q < (L.slice (L.ix + 1) (L.done - L.ix)).length := by rw [← HM7.out.1, List.length_map, HM7.out.2]; exact hqn
                        obtain ⟨r1, r2, r3⟩ := keep_slice13 HI.out HI'.out HC9.out.2.2.keeps hlq
                        have hqy : q < ys.length := by rw [HM7.out.2]; exact hqn
                        have e1 : (ys.getD q noEV).e = (L.slice (L.ix + 1) (L.done - L.ix))[q] := by
                          rw [map_getE hqy]
                          simp only [HM7.out.1]
                        rw [← e1] at r1 r3
                        have e2 : (ys.getD q noEV).i = L.ix + q + 1 := r1
                        exact ⟨e2, fun h => by rw [e2] at h ⊢; exact r3 h⟩
                      clear hEr
                      generalize ys.getD q noEV = e at *
                      dsimp only at hp
                      rw [hp] at *
                      have hbE := heap_alloc_new wr (.cells #[.int .i64 0, .int .i64 0, .int .i64 0, .int .i64 0, .int .i64 0, .int .i64 0, .string ⟨#[]⟩, .string ⟨#[]⟩, .string ⟨#[]⟩, .string ⟨#[]⟩, .int .i64 0, .slice none 0 0, .slice none 0 0] 51)
                      have hth := there_box hbE 0 13 (Nat.le_refl _)
                      have hst := stE_arr 0 e hth
                      have hbE2 := setE_box e hbE rfl
                      have hBE : Below wr.heap.size wr ((wr.alloc (.cells #[.int .i64 0, .int .i64 0, .int .i64 0, .int .i64 0, .int .i64 0, .int .i64 0, .string ⟨#[]⟩, .string ⟨#[]⟩, .string ⟨#[]⟩, .string ⟨#[]⟩, .int .i64 0, .slice none 0 0, .slice none 0 0] 51)).setCells wr.heap.size 0 e.arr.toList) := setCells_below (Nat.le_refl _) _ _ ((Below.refl _ _).alloc (Nat.le_refl _) _)
                      have hlE := box_lt hbE2
                      have HbE : Hid _ := hbE2
                      have HD2 : Hid (Duo13 w w7 ((wr.alloc (.cells #[.int .i64 0, .int .i64 0, .int .i64 0, .int .i64 0, .int .i64 0, .int .i64 0, .string ⟨#[]⟩, .string ⟨#[]⟩, .string ⟨#[]⟩, .string ⟨#[]⟩, .int .i64 0, .slice none 0 0, .slice none 0 0] 51)).setCells wr.heap.size 0 e.arr.toList) F b G' L' r H' M') := HQ.out.below hBE
                      have HE2 : Hid (FitsE ((wr.alloc (.cells #[.int .i64 0, .int .i64 0, .int .i64 0, .int .i64 0, .int .i64 0, .int .i64 0, .string ⟨#[]⟩, .string ⟨#[]⟩, .string ⟨#[]⟩, .string ⟨#[]⟩, .int .i64 0, .slice none 0 0, .slice none 0 0] 51)).setCells wr.heap.size 0 e.arr.toList) e) := hFe.below hBE
                      have x0 : ((wr.alloc (.cells #[.int .i64 0, .int .i64 0, .int .i64 0, .int .i64 0, .int .i64 0, .int .i64 0, .string ⟨#[]⟩, .string ⟨#[]⟩, .string ⟨#[]⟩, .string ⟨#[]⟩, .int .i64 0, .slice none 0 0, .slice none 0 0] 51)).setCells wr.heap.size 0 e.arr.toList).cell? ⟨wr.heap.size, 0, none⟩ = some (.int .i64 e.i) := box_cell hbE2 0
                      clear hbE hBE HQ hFe
                      have ks := lslice13 HD2.out e.i 1
                      go_wp2_with fail
                      generalize (wr.alloc (.cells #[.int .i64 0, .int .i64 0, .int .i64 0, .int .i64 0, .int .i64 0, .int .i64 0, .string ⟨#[]⟩, .string ⟨#[]⟩, .string ⟨#[]⟩, .string ⟨#[]⟩, .int .i64 0, .slice none 0 0, .slice none 0 0] 51)).setCells wr.heap.size 0 e.arr.toList = W2 at *
                      clear hld hth hst
                      refine ks.mono ?_
                      rintro _ w11 ⟨⟨px, nx, cx⟩, zs, rfl, hox, hmx, -, hbx, hD11⟩
                      have HD11 : Hid (Duo13 w w7 w11 F b G' L' r H' M') := hD11
                      have HbE2 : Hid _ := box_below HbE.out hbx
                      have HE3 : Hid (FitsE w11 e) := HE2.out.below hbx
                      clear ks hbx hD11 HD2 HbE HE2 x0 hlE
                      by_cases hbase : L'.ix < e.i
                      · have hz := HKq.out.2 hbase
                        rw [hz] at hmx
                        obtain ⟨z, rfl, hze⟩ := one_map13 hmx
                        have hnop : True := trivial
                        · clear hnop
                          have hnx : nx = 1 := by have := hox.fits.n; simpa using this.symm
                          subst hnx
                          have hcx : 1 ≤ cx := hox.fits.c
                          obtain ⟨gx, ox, hpx, hgx, hldx⟩ := hox.fits.ld (j := 0) (by show 0 < 1; decide)
                          dsimp only at hpx
                          subst hpx
                          have HZl : Hid (∀ W, Below w11.heap.size w11 W → (ldE (.pointer (some ⟨gx, ox + 0 * 13, none⟩))).run Try.prog W = .ok (.agg z.arr) W) := fun W hW => by
                            obtain ⟨g', o', hp', -, hl'⟩ := (hox.fits.below hW).ld (j := 0) (by show 0 < 1; decide)
                            cases hp'
                            exact hl'
                          have hFz : FitsE w11 z := hox.fits.all _ (List.mem_singleton.2 rfl)
                          have hsame : sameE10 z.e e.e = true := (sameE10_iff _ _).2 hze
                          have HKs : Hid (∀ W, Below w11.heap.size w11 W → Calls Try.prog 17 #[.agg z.arr, .agg e.arr] W fun e w' => e = .returned (.bool true) ∧ Below W.heap.size W w') := fun W hW => by
                            have := rsameE_any z e W (hFz.below hW).f (HE3.out.below hW).f
                            rw [hsame] at this
                            exact this
                          generalize hebx : wr.heap.size = eb at *
                          have KS : ∀ wB, Below w11.heap.size w11 wB → wB.cell? ⟨eb, 0, none⟩ = some (.int .i64 e.i) ∧ (ldE (.pointer (some ⟨eb, 0, none⟩))).run Try.prog wB = .ok (.agg e.arr) wB ∧ (ldE (.pointer (some ⟨gx, ox, none⟩))).run Try.prog wB = .ok (.agg z.arr) wB ∧ Below w11.heap.size w11 wB := fun wB hB => ⟨box_cell (box_below HbE2.out hB) 0, ldE_box _ _ _ _ _ (box_below HbE2.out hB) rfl, (by have := HZl.out _ hB; rwa [Nat.zero_mul, Nat.add_zero] at this), hB⟩
                          have HKS : Hid _ := KS
                          have s0 := KS _ (below_drew13 w11)
                          clear KS hldx hz hmx hze hsame hFz hox
                          go_wp2_with fail
                          go_region_held3 (fun w' => w'.cell? ⟨eb, 0, none⟩ = some (.int .i64 e.i) ∧ (ldE (.pointer (some ⟨eb, 0, none⟩))).run Try.prog w' = .ok (.agg e.arr) w' ∧ (ldE (.pointer (some ⟨gx, ox, none⟩))).run Try.prog w' = .ok (.agg z.arr) w' ∧ Below w11.heap.size w11 w')
                            (first | exact s0 | assumption | exact HKS.out _ (kz13a (by assumption) (by assumption)))
                            (first
                              | (go_at_call 17; (with_reducible refine Calls.mono (HKs.out _ (kz13b (by assumption))) ?_); rintro _ wb ⟨rfl, hbb⟩))
                          have HB9 : Hid (Below w11.heap.size w11 wb) := kz13b (by assumption)
                          have HD12 : Hid (Duo13 w w7 wb F b G' L' r H' M') := HD11.out.below HB9.out
                          clear s0 hbb
                          go_wp2
                          go_roundw
                          case rel => exact ⟨q + 1, by go_num, by omega, HD12⟩
                          case measure => simp only [intOf]; omega
                      · have hz := slice_low13 (m := 1) hbase
                        rw [hz] at hmx
                        have hnx : nx = 0 := by
                          have h1 := hox.fits.n
                          have h2 := congrArg List.length hmx
                          rw [List.length_map] at h2
                          have h3 : zs.length = nx := h1
                          simpa [h3] using h2
                        have x0 : w11.cell? ⟨wr.heap.size, 0, none⟩ = some (.int .i64 e.i) := box_cell HbE2.out 0
                        have hl0 := box_lt HbE2.out
                        have hb2 : decide (L'.ix < e.i) = false := decide_eq_false hbase
                        subst hnx
                        clear hz hmx hox
                        go_wp2_with fail
                        go_quiet (fail)
                        rename_i nq
                        have HD12 : Hid (Duo13 w w7 (w11.drewN nq) F b G' L' r H' M') := HD11.out.below (below_drewN (Below.refl _ _) nq)
                        go_wp2
                        go_roundw
                        case rel => exact ⟨q + 1, by go_num, by omega, HD12⟩
                        case measure => simp only [intOf]; omega
                    · have hq' : q = nk := by omega
                      subst hq'
                      have ks := lslice13 HQ.out (L'.ix + 1) 10000
                      go_wp2_with fail
                      refine ks.mono ?_
                      rintro _ w12 ⟨⟨pv, nv, cv⟩, vs, rfl, hov, hmv, -, hbv, hD12⟩
                      have HV12 : Hid (Duo13 w w7 w12 F b G' L' r H' M' ∧ OwnsEs w12 wr.heap.size ⟨pv, nv, cv⟩ vs) := ⟨hD12, hov⟩
                      have HMv : Hid (vs.map EntV.e = L'.slice (L'.ix + 1) 10000 ∧ vs.length = nv) := ⟨hmv, hov.fits.n⟩
                      have hvc : nv ≤ cv := hov.fits.c
                      have hnv : nv ≤ 10000 := by
                        have h1 := congrArg List.length hmv
                        rw [List.length_map] at h1
                        have h2 : vs.length = nv := hov.fits.n
                        have h3 : (L'.slice (L'.ix + 1) 10000).length ≤ 10000 := by
                          unfold LG.slice
                          split
                          · exact Nat.zero_le _
                          · rw [List.length_take]; exact Nat.min_le_left _ _
                        omega
                      generalize wr.heap.size = B12 at *
                      have HT0 : Hid (L'.t0 = lastT13 L'.t0 (L'.l.take 0)) := rfl
                      have HIx : Hid (∀ q, q < nv → (vs.getD q noEV).i = L'.ix + 1 + q ∧ lastT13 L'.t0 (L'.l.take q) ≤ (vs.getD q noEV).t ∧ lastT13 L'.t0 (L'.l.take (q + 1)) = (vs.getD q noEV).t) := fun q hqv => by
                        have hlq : q < (L'.slice (L'.ix + 1) 10000).length := by rw [← HMv.out.1, List.length_map, HMv.out.2]; exact hqv
                        obtain ⟨r1, r2, r3⟩ := row_slice13 HI'.out hlq
                        have hqy : q < vs.length := by rw [HMv.out.2]; exact hqv
                        have e1 : (vs.getD q noEV).e = (L'.slice (L'.ix + 1) 10000)[q] := by
                          rw [map_getE hqy]
                          simp only [HMv.out.1]
                        rw [← e1] at r1 r2 r3
                        exact ⟨r1, r2, r3⟩
                      obtain ⟨lt, HLt⟩ : ∃ lt : Nat → Int, Hid (∀ q, lastT13 L'.t0 (L'.l.take q) = lt q) := ⟨_, fun _ => rfl⟩
                      have HT1 : Hid (L'.t0 = lt 0) := HT0.out.trans (HLt.out 0)
                      have HIy : Hid (∀ q, q < nv → (vs.getD q noEV).i = L'.ix + 1 + q ∧ lt q ≤ (vs.getD q noEV).t ∧ lt (q + 1) = (vs.getD q noEV).t) := fun q hqv => by
                        have h1 := HIx.out q hqv
                        rw [HLt.out, HLt.out] at h1
                        exact h1
                      have v2 : ∀ q : Nat, q ≤ 10000 → IntKind.i64.wrap (L'.ix + 1 + (q : Int)) = L'.ix + 1 + (q : Int) := fun q hq => by
                        have h1 := HI'.out.x0
                        have h2 := HI'.out.used
                        have h3 := HI'.out.done
                        have h4 := HI'.out.most
                        have h5 := HC9.out.2.2.top
                        have h6 := HP7.out.2.2
                        rw [IntKind.wrap_i64]; omega
                      have HV2 : Hid _ := v2
                      have HZe : Hid (Kp13 w W4 w12 b G' L' r H' M' (nn + sm.n)) := ⟨hD12.rebase HZ7.out fun _ hk => hk.elim, HC9.out.2.1, by have h1 := HC9.out.2.2.len; have h2 := HP7.out.2.1; omega, by have h1 := HC9.out.2.2.top; have h2 := HP7.out.2.2; omega⟩
                      clear ks hov hmv hbv hD12 HQ HT0 HIx HLt v2 hq
                      go_wp2
                      go_loopw [16, 177] (fun s16 s177 wr => ∃ q : Nat, s16 = .int .i64 (lt q) ∧ s177 = .int .i64 (q : Nat) ∧ q ≤ nv ∧ Hid (Duo13 w w7 wr F b G' L' r H' M' ∧ OwnsEs wr B12 ⟨pv, nv, cv⟩ vs)) (fun _ s177 _ => nv - (intOf s177).toNat)
                      case atStart => exact ⟨0, by rw [HT1.out], rfl, Nat.zero_le _, HV12⟩
                      case round =>
                        obtain ⟨q, rfl, rfl, hq, HQ⟩ := hrel
                        by_cases hqn : q < nv
                        · obtain ⟨g, o, hp, hg, hld⟩ := HQ.out.2.fits.ld hqn
                          obtain ⟨r1, r2, r3⟩ := HIy.out q hqn
                          have v3 := HV2.out q (by omega)
                          generalize vs.getD q noEV = e at *
                          dsimp only at hp
                          have R3 : Hid (lt (q + 1) = e.t) := r3
                          generalize lt q = tq at *
                          subst hp
                          have hbE := heap_alloc_new wr (.cells #[.int .i64 0, .int .i64 0, .int .i64 0, .int .i64 0, .int .i64 0, .int .i64 0, .string ⟨#[]⟩, .string ⟨#[]⟩, .string ⟨#[]⟩, .string ⟨#[]⟩, .int .i64 0, .slice none 0 0, .slice none 0 0] 51)
                          have hth := there_box hbE 0 13 (Nat.le_refl _)
                          have hst := stE_arr 0 e hth
                          have hbE2 := setE_box e hbE rfl
                          have hBE : Below wr.heap.size wr ((wr.alloc (.cells #[.int .i64 0, .int .i64 0, .int .i64 0, .int .i64 0, .int .i64 0, .int .i64 0, .string ⟨#[]⟩, .string ⟨#[]⟩, .string ⟨#[]⟩, .string ⟨#[]⟩, .int .i64 0, .slice none 0 0, .slice none 0 0] 51)).setCells wr.heap.size 0 e.arr.toList) := setCells_below (Nat.le_refl _) _ _ ((Below.refl _ _).alloc (Nat.le_refl _) _)
                          have hlE := box_lt hbE2
                          have HbE : Hid _ := hbE2
                          have HQ3 : Hid (Duo13 w w7 ((wr.alloc (.cells #[.int .i64 0, .int .i64 0, .int .i64 0, .int .i64 0, .int .i64 0, .int .i64 0, .string ⟨#[]⟩, .string ⟨#[]⟩, .string ⟨#[]⟩, .string ⟨#[]⟩, .int .i64 0, .slice none 0 0, .slice none 0 0] 51)).setCells wr.heap.size 0 e.arr.toList) F b G' L' r H' M' ∧ OwnsEs ((wr.alloc (.cells #[.int .i64 0, .int .i64 0, .int .i64 0, .int .i64 0, .int .i64 0, .int .i64 0, .string ⟨#[]⟩, .string ⟨#[]⟩, .string ⟨#[]⟩, .string ⟨#[]⟩, .int .i64 0, .slice none 0 0, .slice none 0 0] 51)).setCells wr.heap.size 0 e.arr.toList) B12 ⟨some ⟨g, o, none⟩, nv, cv⟩ vs) := ⟨HQ.out.1.below hBE, HQ.out.2.below hBE⟩
                          have x0 : ((wr.alloc (.cells #[.int .i64 0, .int .i64 0, .int .i64 0, .int .i64 0, .int .i64 0, .int .i64 0, .string ⟨#[]⟩, .string ⟨#[]⟩, .string ⟨#[]⟩, .string ⟨#[]⟩, .int .i64 0, .slice none 0 0, .slice none 0 0] 51)).setCells wr.heap.size 0 e.arr.toList).cell? ⟨wr.heap.size, 0, none⟩ = some (.int .i64 e.i) := box_cell hbE2 0
                          have x1 : ((wr.alloc (.cells #[.int .i64 0, .int .i64 0, .int .i64 0, .int .i64 0, .int .i64 0, .int .i64 0, .string ⟨#[]⟩, .string ⟨#[]⟩, .string ⟨#[]⟩, .string ⟨#[]⟩, .int .i64 0, .slice none 0 0, .slice none 0 0] 51)).setCells wr.heap.size 0 e.arr.toList).cell? ⟨wr.heap.size, 1, none⟩ = some (.int .i64 e.t) := box_cell hbE2 1
                          clear hbE hBE HQ
                          have r2' : ¬ e.t < tq := by omega
                          have r1' : (e.i != L'.ix + 1 + (q : Int)) = false := by simp [r1]
                          clear r3 r1
                          go_upto_region 38 with fail
                          generalize (wr.alloc (.cells #[.int .i64 0, .int .i64 0, .int .i64 0, .int .i64 0, .int .i64 0, .int .i64 0, .string ⟨#[]⟩, .string ⟨#[]⟩, .string ⟨#[]⟩, .string ⟨#[]⟩, .int .i64 0, .slice none 0 0, .slice none 0 0] 51)).setCells wr.heap.size 0 e.arr.toList = W2 at *
                          clear hld hth hst
                          go_wp2
                          go_roundw
                          case rel => exact ⟨q + 1, by rw [R3.out], by go_num, by omega, HQ3⟩
                          case measure => simp only [intOf]; omega
                        · have hqq : q = nv := by omega
                          have HX : Hid (Kp13 w W4 wr b G' L' r H' M' (nn + sm.n)) := ⟨HQ.out.1.rebase HZ7.out fun _ hk => hk.elim, HZe.out.nil, HZe.out.len, HZe.out.top⟩
                          clear HQ
                          go_wp2
                          go_roundw
                          case rel => exact ⟨j + 1, nn + sm.n, G', L', H', M', by go_num, by go_num, by omega, by omega, HX⟩
                          case measure => simp only [intOf]; omega
          · have HB8 : Hid (Below w.heap.size w wr) := HR.out.duo.bel
            clear HR
            go_wp2_with fail
            refine (HLv.out wr HB8.out).mono ?_
            rintro _ w9 ⟨rfl, hb9⟩
            go_wp2
            go_ret
            exact ⟨rfl, hb9⟩
theorem rlogKeeps_row (w : World) (x : BegV) (sa : Sl10) (xs : List ActV13) (hx : FitsB13 w x) (ha : HasA13 w sa xs) (hal : sa.n ≤ 140737488355328) :
    Calls Try.prog 4 #[.agg x.arr, .slice sa.p sa.n sa.c] w fun e w' => e = .returned (.bool true) ∧ Below w.heap.size w w' := rlogKeeps_walk w x sa xs hx ha hal
end Go.Proofs.Ytephoegcpjdglaa
