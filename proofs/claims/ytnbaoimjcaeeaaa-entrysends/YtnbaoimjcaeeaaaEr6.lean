/-
  The walk of EntrySends.
-/
import Derived.Test.YtnbaoimjcaeeaaaEp4
import Derived.Test.YtnbaoimjcaeeaaaEp5
import Derived.Test.YtnbaoimjcaeeaaaEp6
namespace Go.Proofs.Ytnbaoimjcaeeaaa
open Go.RowKit Go.Shelf

theorem entsB_isB (l : List Ent10) : IsB (entsB l) := by
  induction l with
  | nil => exact IsB.nil
  | cons a l ih => rw [entsB_cons]; exact IsB.append (entB_isB a) ih
theorem msgB_isB (m : Msg10) (h : IsB m.sn.d) : IsB (msgB m) := by
  unfold msgB
  refine IsB.append (IsB.append (IsB.append (IsB.append (IsB.append (IsB.append (IsB.append (IsB.append (IsB.append (IsB.append (IsB.append (zigB_isB _) (zigB_isB _)) (zigB_isB _)) (zigB_isB _)) (zigB_isB _)) (zigB_isB _)) (zigB_isB _)) (zigB_isB _)) (boolB_isB _)) (zigB_isB _)) ?_) ?_
  · split
    · exact IsB.append (numB_isB _) (entsB_isB _)
    · exact IsB.nil
  · split
    · exact snapB_isB _ h
    · exact IsB.nil
theorem msgB_pos (m : Msg10) : 0 < (msgB m).length := by
  unfold msgB
  simp only [List.length_append, List.length_singleton]
  omega
theorem msgB_len {x : MsgV} (h : LowM x) : (msgB x.m).length ≤ 1000000000 := by
  have h0 := zigB_le x.k
  have h1 := zigB_le x.fr
  have h2 := zigB_le x.to
  have h3 := zigB_le x.t
  have h4 := zigB_le x.i
  have h5 := zigB_le x.lt
  have h6 := zigB_le x.cm
  have h7 := zigB_le x.ro
  have h8 := zigB_le x.hint
  have h9 := numB_le ((x.es.map EntV.e).length : Int)
  have ha := esB_len h.each
  have hb := h.es
  have hc := snapB_len (s := x.sn.s) h.f h.d
  have hd : (entsB (x.es.map EntV.e)).length ≤ 40000000 := by
    show (esB x.es).length ≤ _
    omega
  unfold msgB MsgV.m
  dsimp only
  simp only [List.length_append, List.length_singleton]
  have e5 : (if x.k = 5 then numB ((x.es.map EntV.e).length : Int) ++ entsB (x.es.map EntV.e) else []).length ≤ 40000009 := by
    split
    · rw [List.length_append]; omega
    · simp
  have e7 : (if x.k = 7 then snapB x.sn.s else []).length ≤ 1100000 := by
    split
    · exact hc
    · simp
  omega
theorem shortM {w : World} {x : MsgV} (hF : FitsM w x) (hl : LowM x) : ShortM10 1152921504606846976 x.m := by
  refine ⟨hF.k, hF.fr, hF.to, hF.t, hF.i, hF.lt, hF.cm, hF.ro, hF.hint, fun e he => ?_, hF.sn.i, hF.sn.t, hF.sn.f.iu, hF.sn.f.iv, ?_, ?_, Nat.lt_of_le_of_lt hF.sn.l (by decide)⟩
  · obtain ⟨y, hy, rfl⟩ := List.mem_map.1 he
    have hx := hF.es.all y hy
    have few1 := hl.each y hy
    refine ⟨hx.i, hx.t, hx.k, ⟨by have := hx.c.1; exact Nat.lt_of_le_of_lt this (by decide), by have := hx.c.2.1; exact Nat.lt_of_le_of_lt this (by decide), by have := hx.c.2.2.1; exact Nat.lt_of_le_of_lt this (by decide), by have := hx.c.2.2.2.1; exact Nat.lt_of_le_of_lt this (by decide), hx.c.2.2.2.2.1, hx.c.2.2.2.2.2.1, hx.c.2.2.2.2.2.2.1, hx.c.2.2.2.2.2.2.2⟩, hx.f.iu, hx.f.iv, ?_, ?_, Nat.lt_of_le_of_lt (cmdB_few few1.2) (by decide)⟩
    · show ((y.f.f.vs.length : Nat) : Int) ≤ _
      have : y.f.f.vs.length ≤ 1000 := few1.1.1
      omega
    · show ((y.f.f.ls.length : Nat) : Int) ≤ _
      have : y.f.f.ls.length ≤ 1000 := few1.1.2
      omega
  · show ((x.sn.f.f.vs.length : Nat) : Int) ≤ _
    have : x.sn.f.f.vs.length ≤ 1000 := hl.f.1
    omega
  · show ((x.sn.f.f.ls.length : Nat) : Int) ≤ _
    have : x.sn.f.f.ls.length ≤ 1000 := hl.f.2
    omega
theorem backM (x : Msg10) (h : ShortM10 1152921504606846976 x) (hg : goodM10 x = true) : whole10 goodM10 noM10 (pmsg10 (msgB x, false)) = (x, 0) := by
  rw [(msg10_sim 1152921504606846976 (by decide)).whole noM10 (msgB x, false)]
  have := msg10_back 1152921504606846976 x [] h (goodM10_kind hg) (by decide)
  rw [List.append_nil] at this
  rw [this]
  unfold whole10
  rw [hg]
  rfl
theorem moreM (x : Msg10) (h : ShortM10 1152921504606846976 x) (hg : goodM10 x = true) : whole10 goodM10 noM10 (pmsg10 (msgB x ++ [0], false)) = (noM10, 8) := by
  rw [(msg10_sim 1152921504606846976 (by decide)).whole noM10 (msgB x ++ [0], false), msg10_back 1152921504606846976 x [0] h (goodM10_kind hg) (by decide)]
  rfl
theorem cutM (x : Msg10) (h : ShortM10 1152921504606846976 x) (hg : goodM10 x = true) (c : Nat) (hc : c < (msgB x).length) : whole10 goodM10 noM10 (pmsg10 ((msgB x).take c, false)) = (noM10, 8) := by
  rw [(msg10_sim 1152921504606846976 (by decide)).whole noM10 ((msgB x).take c, false)]
  have hb := msg10_back 1152921504606846976 x [] h (goodM10_kind hg) (by decide)
  rw [List.append_nil] at hb
  have hcut := cut10 (both_msg 1152921504606846976).app (p := (msgB x).take c) (q := (msgB x).drop c) (by intro h0; have := congrArg List.length h0; rw [List.length_drop] at this; simp at this; omega) (by rw [List.take_append_drop, hb])
  unfold whole10
  rw [hcut]
  rfl


set_option maxRecDepth 100000 in
set_option maxHeartbeats 8000000 in
theorem sends_no (x : MsgV) (cut : Int) (w : World) (hx : FitsM w x) (hg : goodM10 x.m = false) : Calls Try.prog 6 #[.agg x.arr, .int .u64 cut] w fun e w' => e = .returned (.bool true) ∧ Below w.heap.size w w' := by
  have k9 := fun w => lives10_any w
  have hb0 : Below w.heap.size w (w.alloc (.cells x.arr 45)) := (Below.refl _ _).alloc (Nat.le_refl _) _
  have hM0 : MsgAt (w.alloc (.cells x.arr 45)) w.heap.size x := heap_alloc_new w _
  have hz0 := hb0.size
  have kf := few10_any x _ (hx.below hb0)
  have HL : Hid (FewM x → LowM x) := FewM.low
  have HB : Hid (LowM x → ∀ W, Below w.heap.size w W → Calls Try.prog 33 #[.agg x.arr] W fun e w' => ∃ v, e = .returned v ∧ Owns w' W.heap.size 5 v (msgB x.m) ∧ Below W.heap.size W w') := fun hl W h => bytesM_any W x (hx.below h) hl
  have HG : Hid (∀ W, Below w.heap.size w W → Calls Try.prog 31 #[.agg x.arr] W fun e w' => e = .returned (.bool false) ∧ Below W.heap.size W w') := fun W h => by
    have := goodMsg_any x W (hx.below h)
    rwa [hg] at this
  have HLen : Hid (LowM x → (msgB x.m).length ≤ 1000000000) := msgB_len
  have HIs : Hid (IsB (msgB x.m)) := msgB_isB _ hx.sn.b
  have HR : Hid (LowM x → ∀ W v, Has W v (msgB x.m) → Calls Try.prog 32 #[v] W fun e w' => ∃ X : MsgV, e = .returned (.tuple #[.agg X.arr, .int .i64 (whole10 goodM10 noM10 (pmsg10 (msgB x.m, false))).2]) ∧ X.m = (whole10 goodM10 noM10 (pmsg10 (msgB x.m, false))).1 ∧ FitsM w' X ∧ Below W.heap.size W w') := fun hl W v hv => readM_any v _ W hv HIs.out (Nat.le_trans (HLen.out hl) (by decide))
  have HW : Hid ((whole10 goodM10 noM10 (pmsg10 (msgB x.m, false))).2 = 0 ∧ goodM10 (whole10 goodM10 noM10 (pmsg10 (msgB x.m, false))).1 = true ∨ (whole10 goodM10 noM10 (pmsg10 (msgB x.m, false))).2 = 8) := by
    rcases whole_good goodM10 noM10 (pmsg10 (msgB x.m, false)) with h | h
    · exact .inl h
    · exact .inr (by rw [h])
  have M7 : Hid (∀ W (X : MsgV), FitsM W X → goodM10 X.m = true → Calls Try.prog 31 #[.agg X.arr] W fun e w' => e = .returned (.bool true) ∧ Below W.heap.size W w') := fun W X h hg => by
    have := goodMsg_any X W h
    rwa [hg] at this
  generalize whole10 goodM10 noM10 (pmsg10 (msgB x.m, false)) = R at *
  obtain ⟨xm, E⟩ := R
  dsimp only at HR HW
  generalize msgB x.m = bs at *
  generalize LowM x = FP at *
  generalize FewM x = FM at *
  clear hx hg
  obtain ⟨k, fr, too, t, i, lt, cm, ro, rej, hint, ⟨a, b, e⟩, es, ⟨si, st, ⟨⟨p, n, c⟩, ⟨q, m, d⟩, f⟩, ⟨a', b', e'⟩, dd⟩⟩ := x
  unfold MsgV.arr at *
  dsimp only at *
  go_enter Try.func6, Try.ntmps6
  go_wp2_with fail
  refine kf.mono ?_
  rintro _ w1 ⟨r, rfl, hr, hb1⟩
  have hM1 : MsgAt w1 w.heap.size ⟨k, fr, too, t, i, lt, cm, ro, rej, hint, ⟨a, b, e⟩, es, ⟨si, st, ⟨⟨p, n, c⟩, ⟨q, m, d⟩, f⟩, ⟨a', b', e'⟩, dd⟩⟩ := box_below hM0 hb1
  have hB1 := hb0.trans (hb1.mono hz0)
  have HR0 : Hid (r = true → FM) := hr
  clear kf hM0 hb1 hr hb0
  cases r with
  | false =>
    go_wp2_with fail
    refine (k9 _).mono ?_
    rintro _ w3 ⟨rfl, hb3⟩
    have hB3 := hB1.trans (hb3.mono hB1.size)
    go_wp2
    go_ret
    exact ⟨rfl, hB3⟩
  | true =>
    have hl := HL.out (HR0.out rfl)
    have M1 : Hid _ := HB.out hl
    have M2 : Hid _ := HR.out hl
    have hlen := HLen.out hl
    clear HB HR HLen HL HR0
    obtain ⟨c0, c1, c2, c3, c4, c5, c6, c7, c8, c9, c10, c11, c12, c13, c14, c15⟩ := hM1.cells
    dsimp only at c0 c1 c2 c3 c4 c5 c6 c7 c8 c9 c10 c11 c12 c13 c14 c15
    have hl1 := box_lt hM1
    have k1 := HG.out w1 hB1
    as_aux_lemma =>
      go_wp2_with fail
      refine k1.mono ?_
      rintro _ w2 ⟨rfl, hb2⟩
      have hM2 : MsgAt w2 w.heap.size ⟨k, fr, too, t, i, lt, cm, ro, rej, hint, ⟨a, b, e⟩, es, ⟨si, st, ⟨⟨p, n, c⟩, ⟨q, m, d⟩, f⟩, ⟨a', b', e'⟩, dd⟩⟩ := box_below hM1 hb2
      have hB2 := hB1.trans (hb2.mono hB1.size)
      clear k1 hM1 hB1 hb2 hl1 c0 c1 c2 c3 c4 c5 c6 c7 c8 c9 c10 c11 c12 c13 c14 c15
      obtain ⟨c0, c1, c2, c3, c4, c5, c6, c7, c8, c9, c10, c11, c12, c13, c14, c15⟩ := hM2.cells
      dsimp only at c0 c1 c2 c3 c4 c5 c6 c7 c8 c9 c10 c11 c12 c13 c14 c15
      have hl2 := box_lt hM2
      have k2 := M1.out w2 hB2
      as_aux_lemma =>
        go_wp2_with fail
        refine k2.mono ?_
        rintro _ w3 ⟨v3, rfl, ho3, hb3⟩
        have hB3 := hB2.trans (hb3.mono hB2.size)
        have k3 := M2.out w3 v3 ho3.has
        clear k2 hM2 hB2 hb3 hl2 c0 c1 c2 c3 c4 c5 c6 c7 c8 c9 c10 c11 c12 c13 c14 c15 ho3
        go_wp2_with fail
        refine k3.mono ?_
        rintro _ w4 ⟨X, rfl, hX, fX, hb4⟩
        have HX : Hid (X.m = xm) := hX
        have hB4 := hB3.trans (hb4.mono hB3.size)
        have hba : Below w4.heap.size w4 (w4.alloc (.cells X.arr 45)) := (Below.refl _ _).alloc (Nat.le_refl _) _
        have hbX : MsgAt (w4.alloc (.cells X.arr 45)) w4.heap.size X := heap_alloc_new w4 _
        have fX5 := fX.below hba
        have hB5 := hB4.trans (hba.mono hB4.size)
        have HK : Hid (goodM10 xm = true → Calls Try.prog 31 #[.agg X.arr] (w4.alloc (.cells X.arr 45)) fun e w' => e = .returned (.bool true) ∧ Below (w4.alloc (.cells X.arr 45)).heap.size (w4.alloc (.cells X.arr 45)) w') := fun h => M7.out _ X fX5 (by rw [HX.out]; exact h)
        clear k3 hX hb4 hB3 hB4 fX fX5 M7 hba HX
        obtain ⟨xk, xfr, xtoo, xt, xi, xlt, xcm, xro, xrej, xhint, ⟨xa, xb, xe⟩, xes, ⟨xsi, xst, ⟨⟨xp, xn, xc⟩, ⟨xq, xm, xd⟩, xf⟩, ⟨xa', xb', xe'⟩, xdd⟩⟩ := X
        unfold MsgV.arr at *
        dsimp only at *
        as_aux_lemma =>
          rcases HW.out with ⟨h0, hgd⟩ | h8
          · subst h0
            have k5 := HK.out hgd
            clear HK HW hgd
            go_upto_region 5 with fail
            generalize w4.alloc (.cells #[.int .i64 xk, .int .i64 xfr, .int .i64 xtoo, .int .i64 xt, .int .i64 xi, .int .i64 xlt, .int .i64 xcm, .int .i64 xro, .bool xrej, .int .i64 xhint, .slice xa xb xe, .int .i64 xsi, .int .i64 xst, .slice xp xn xc, .slice xq xm xd, .slice xa' xb' xe'] 45) = w5 at *
            replace hbX : MsgAt w5 w4.heap.size ⟨xk, xfr, xtoo, xt, xi, xlt, xcm, xro, xrej, xhint, ⟨xa, xb, xe⟩, xes, ⟨xsi, xst, ⟨⟨xp, xn, xc⟩, ⟨xq, xm, xd⟩, xf⟩, ⟨xa', xb', xe'⟩, xdd⟩⟩ := hbX
            generalize w4.heap.size = bX at *
            obtain ⟨c0, c1, c2, c3, c4, c5, c6, c7, c8, c9, c10, c11, c12, c13, c14, c15⟩ := hbX.cells
            dsimp only at c0 c1 c2 c3 c4 c5 c6 c7 c8 c9 c10 c11 c12 c13 c14 c15
            have hlX := box_lt hbX
            as_aux_lemma =>
              go_wp2_with fail
              refine k5.mono ?_
              rintro _ w6 ⟨rfl, hb6⟩
              have hB6 := hB5.trans (hb6.mono hB5.size)
              go_wp2_with fail
              refine (k9 _).mono ?_
              rintro _ w7 ⟨rfl, hb7⟩
              have hB7 := hB6.trans (hb7.mono hB6.size)
              go_wp2
              go_ret
              exact ⟨rfl, hB7⟩
          · subst h8
            clear HK HW
            go_upto_region 5 with fail
            generalize w4.alloc (.cells #[.int .i64 xk, .int .i64 xfr, .int .i64 xtoo, .int .i64 xt, .int .i64 xi, .int .i64 xlt, .int .i64 xcm, .int .i64 xro, .bool xrej, .int .i64 xhint, .slice xa xb xe, .int .i64 xsi, .int .i64 xst, .slice xp xn xc, .slice xq xm xd, .slice xa' xb' xe'] 45) = w5 at *
            go_wp2_with fail
            refine (k9 _).mono ?_
            rintro _ w7 ⟨rfl, hb7⟩
            have hB7 := hB5.trans (hb7.mono hB5.size)
            go_wp2
            go_ret
            exact ⟨rfl, hB7⟩

end Go.Proofs.Ytnbaoimjcaeeaaa
