import Derived.Test.YtnbaoimjcaeeaaaGreatEq3To
import Derived.Test.YtnbaoimjcaeeaaaGreatEo6To
import Derived.Test.YtnbaoimjcaeeaaaGreatEo4To
/-
  Contracts: corbelref10.Read, ReadSnap.
-/
namespace Go.Proofs.YtnbaoimjcaeeaaaGreat
open Go.RowKit Go.Shelf

set_option maxRecDepth 100000 in
set_option maxHeartbeats 4000000 in
theorem rreadE_any (v : Value) (xs : List Int) (w : World) (hv : Has w v xs) (hB : IsB xs) (hl : xs.length ≤ 1073741824) :
    Calls Tryz.prog 7 #[v] w fun e w' => ∃ X : EntV, e = .returned (.tuple #[.agg X.arr, .int .i64 (whole10 goodE10 noE10 (pent10 (xs, false))).2]) ∧ X.e = (whole10 goodE10 noE10 (pent10 (xs, false))).1 ∧ FitsE w' X ∧ Below w.heap.size w w' := by
  have hb1 : Below w.heap.size w (w.alloc (.cells #[.int .i64 0, .int .i64 0, .int .i64 0, .int .i64 0, .int .i64 0, .int .i64 0, .string em9, .string em9, .string em9, .string em9, .int .i64 0, .slice none 0 0, .slice none 0 0] 30)) := (Below.refl _ _).alloc (Nat.le_refl _) _
  have hbox : EntAt (w.alloc (.cells #[.int .i64 0, .int .i64 0, .int .i64 0, .int .i64 0, .int .i64 0, .int .i64 0, .string em9, .string em9, .string em9, .string em9, .int .i64 0, .slice none 0 0, .slice none 0 0] 30)) w.heap.size noEV := heap_alloc_new w _
  have hz1 : (w.alloc (.cells #[.int .i64 0, .int .i64 0, .int .i64 0, .int .i64 0, .int .i64 0, .int .i64 0, .string em9, .string em9, .string em9, .string em9, .int .i64 0, .slice none 0 0, .slice none 0 0] 30)).heap.size = w.heap.size + 1 := by simp
  have hR := Rdr.make hb1 hv hB hl 72
  have hsl : ∃ p n c, v = .slice p n c := by
    obtain ⟨p, c, hp, -⟩ := hv
    exact ⟨p, _, c, hp⟩
  have hb2 : Below (w.alloc (.cells #[.int .i64 0, .int .i64 0, .int .i64 0, .int .i64 0, .int .i64 0, .int .i64 0, .string em9, .string em9, .string em9, .string em9, .int .i64 0, .slice none 0 0, .slice none 0 0] 30)).heap.size (w.alloc (.cells #[.int .i64 0, .int .i64 0, .int .i64 0, .int .i64 0, .int .i64 0, .int .i64 0, .string em9, .string em9, .string em9, .string em9, .int .i64 0, .slice none 0 0, .slice none 0 0] 30)) ((w.alloc (.cells #[.int .i64 0, .int .i64 0, .int .i64 0, .int .i64 0, .int .i64 0, .int .i64 0, .string em9, .string em9, .string em9, .string em9, .int .i64 0, .slice none 0 0, .slice none 0 0] 30)).alloc (.cells #[v, .bool false] 72)) := (Below.refl _ _).alloc (Nat.le_refl _) _
  have hbox2 : EntAt _ w.heap.size noEV := box_below hbox hb2
  have hz2 : ((w.alloc (.cells #[.int .i64 0, .int .i64 0, .int .i64 0, .int .i64 0, .int .i64 0, .int .i64 0, .string em9, .string em9, .string em9, .string em9, .int .i64 0, .slice none 0 0, .slice none 0 0] 30)).alloc (.cells #[v, .bool false] 72)).heap.size = w.heap.size + 2 := by simp
  have k1 := rentryR_any w _ _ (xs, false) hR
  have HW1 : Hid (∀ x S', Tell10 (ent10 1000000 (xs, false)) x S' → whole10 goodE10 noE10 (pent10 (xs, false)) = if (S'.1.isEmpty && !S'.2) && goodE10 x then (x, 0) else (noE10, 8)) := fun x S' ht => by
    rw [(ent10_sim 1000000 (by decide)).whole noE10 (xs, false), ← ht.whole]
    rfl
  generalize whole10 goodE10 noE10 (pent10 (xs, false)) = R at *
  obtain ⟨p0, n0, c0_, rfl⟩ := hsl
  rw [hz1] at k1 hR
  clear hR hv hB hbox hb2 hb1 hz1
  go_enter Tryz.func7, Tryz.ntmps7
  go_wp2_with fail
  generalize (w.alloc (.cells #[.int .i64 0, .int .i64 0, .int .i64 0, .int .i64 0, .int .i64 0, .int .i64 0, .string em9, .string em9, .string em9, .string em9, .int .i64 0, .slice none 0 0, .slice none 0 0] 30)).alloc (.cells #[.slice p0 n0 c0_, .bool false] 72) = W2 at *
  refine k1.mono ?_
  rintro _ w3 ⟨X, S1, rfl, hM, hT, hR3, hg3⟩
  have hbox3 : EntAt w3 w.heap.size noEV := grown_box hg3 hbox2 (by omega)
  have hsz3 := hg3.size
  have HW0 : Hid (R = if (S1.1.isEmpty && !S1.2) && goodE10 X.e then (X.e, 0) else (noE10, 8)) := HW1.out _ _ hT
  have hb4 : Below w3.heap.size w3 (w3.alloc (.cells X.arr 30)) := (Below.refl _ _).alloc (Nat.le_refl _) _
  have hbn : EntAt (w3.alloc (.cells X.arr 30)) w3.heap.size X := heap_alloc_new w3 _
  have hbox4 := box_below hbox3 hb4
  have hR4 := hR3.more hb4
  have hM4 := hM.below hb4
  have kg := rgoodE_any X _ hM4.fits
  have kf := hR4.rfin
  have HX : Hid (X.e = X.e) := rfl
  clear k1 hbox2 hbox3 hM hT hR3 hg3 hb4 HW1
  generalize hgx : goodE10 X.e = gx at *
  clear hgx
  generalize hx0 : X.e = x0 at *
  replace HX : Hid (X.e = x0) := hx0
  clear hx0
  obtain ⟨i, t, k, ⟨ck, cs, cq, ckey, cold, cval, cunt, clim⟩, ⟨⟨p, n, c⟩, ⟨q, m, d⟩, f⟩⟩ := X
  unfold EntV.arr at *
  dsimp only at *
  go_wp2_with fail
  generalize w3.alloc (.cells #[.int .i64 i, .int .i64 t, .int .i64 k, .int .i64 ck, .int .i64 cs, .int .i64 cq, .string ckey, .string cold, .string cval, .string cunt, .int .i64 clim, .slice p n c, .slice q m d] 30) = W4 at *
  replace hbox4 : EntAt W4 w.heap.size noEV := hbox4
  replace hbn : EntAt W4 w3.heap.size ⟨i, t, k, ⟨ck, cs, cq, ckey, cold, cval, cunt, clim⟩, ⟨⟨p, n, c⟩, ⟨q, m, d⟩, f⟩⟩ := hbn
  generalize hbx : w3.heap.size = bx at *
  clear hbx
  generalize hfi : (S1.1.isEmpty && !S1.2) = fi at *
  clear hfi
  cases fi with
  | false =>
    have HW : Hid (R = (noE10, 8)) := by rw [Hid, HW0.out]; rfl
    clear HW0
    refine same_mono kf ?_
    have d0 := box_cell hbox4 0
    have d1 := box_cell hbox4 1
    have d2 := box_cell hbox4 2
    have d3 := box_cell hbox4 3
    have d4 := box_cell hbox4 4
    have d5 := box_cell hbox4 5
    have d6 := box_cell hbox4 6
    have d7 := box_cell hbox4 7
    have d8 := box_cell hbox4 8
    have d9 := box_cell hbox4 9
    have d10 := box_cell hbox4 10
    have d11 := box_cell hbox4 11
    have d12 := box_cell hbox4 12
    have fb := frozen9 hbox4
    have hlr := box_lt hbox4
    dsimp only [EntV.arr, noEV, zeroC9, noFV, nilS10] at d0 d1 d2 d3 d4 d5 d6 d7 d8 d9 d10 d11 d12
    go_wp2
    have hF := fillE (b := w.heap.size) (x0 := noEV) hbox4 0 0 0 0 0 0 em9 em9 em9 em9 0 none 0 0 none 0 0 noF10
    have hB9 : Below w.heap.size w _ := (((((((((((((hR4.bel.setCell (p := ⟨w.heap.size, 0, none⟩) (Nat.le_refl _) (.int .i64 0)).setCell (p := ⟨w.heap.size, 1, none⟩) (Nat.le_refl _) (.int .i64 0)).setCell (p := ⟨w.heap.size, 2, none⟩) (Nat.le_refl _) (.int .i64 0)).setCell (p := ⟨w.heap.size, 3, none⟩) (Nat.le_refl _) (.int .i64 0)).setCell (p := ⟨w.heap.size, 4, none⟩) (Nat.le_refl _) (.int .i64 0)).setCell (p := ⟨w.heap.size, 5, none⟩) (Nat.le_refl _) (.int .i64 0)).setCell (p := ⟨w.heap.size, 6, none⟩) (Nat.le_refl _) (.string em9)).setCell (p := ⟨w.heap.size, 7, none⟩) (Nat.le_refl _) (.string em9)).setCell (p := ⟨w.heap.size, 8, none⟩) (Nat.le_refl _) (.string em9)).setCell (p := ⟨w.heap.size, 9, none⟩) (Nat.le_refl _) (.string em9)).setCell (p := ⟨w.heap.size, 10, none⟩) (Nat.le_refl _) (.int .i64 0)).setCell (p := ⟨w.heap.size, 11, none⟩) (Nat.le_refl _) (.slice none 0 0)).setCell (p := ⟨w.heap.size, 12, none⟩) (Nat.le_refl _) (.slice none 0 0))
    refine bodyPost_ret (ret_cell9 rfl _ _ w.heap.size _ _ _ _ rfl hF Tryz.underlying30 rfl (by kernel_rfl)) rfl ⟨noEV, ?_, ?_, (OwnsE.nil _ w.heap.size).fits, hB9⟩
    · rw [HW.out]; rfl
    · rw [HW.out]; rfl
  | true =>
    refine same_mono kf ?_
    clear kf
    have c0 := box_cell hbn 0
    have c1 := box_cell hbn 1
    have c2 := box_cell hbn 2
    have c3 := box_cell hbn 3
    have c4 := box_cell hbn 4
    have c5 := box_cell hbn 5
    have c6 := box_cell hbn 6
    have c7 := box_cell hbn 7
    have c8 := box_cell hbn 8
    have c9 := box_cell hbn 9
    have c10 := box_cell hbn 10
    have c11 := box_cell hbn 11
    have c12 := box_cell hbn 12
    have hlx := box_lt hbn
    dsimp only [EntV.arr] at c0 c1 c2 c3 c4 c5 c6 c7 c8 c9 c10 c11 c12
    go_wp2_with fail
    refine kg.mono ?_
    rintro _ w5 ⟨rfl, hb5⟩
    have hbn5 : EntAt w5 bx ⟨i, t, k, ⟨ck, cs, cq, ckey, cold, cval, cunt, clim⟩, ⟨⟨p, n, c⟩, ⟨q, m, d⟩, f⟩⟩ := box_below hbn hb5
    have hbox5 : EntAt w5 w.heap.size noEV := box_below hbox4 hb5
    have hR5 := hR4.more hb5
    have hM5 := hM4.below hb5
    clear kg hbn hbox4 hR4 hM4 hb5 c0 c1 c2 c3 c4 c5 c6 c7 c8 c9 c10 c11 c12 hlx
    cases gx with
    | false =>
      have HW : Hid (R = (noE10, 8)) := by rw [Hid, HW0.out]; rfl
      clear HW0
      have d0 := box_cell hbox5 0
      have d1 := box_cell hbox5 1
      have d2 := box_cell hbox5 2
      have d3 := box_cell hbox5 3
      have d4 := box_cell hbox5 4
      have d5 := box_cell hbox5 5
      have d6 := box_cell hbox5 6
      have d7 := box_cell hbox5 7
      have d8 := box_cell hbox5 8
      have d9 := box_cell hbox5 9
      have d10 := box_cell hbox5 10
      have d11 := box_cell hbox5 11
      have d12 := box_cell hbox5 12
      have fb := frozen9 hbox5
      have hlr := box_lt hbox5
      dsimp only [EntV.arr, noEV, zeroC9, noFV, nilS10] at d0 d1 d2 d3 d4 d5 d6 d7 d8 d9 d10 d11 d12
      go_wp2
      have hF := fillE (b := w.heap.size) (x0 := noEV) hbox5 0 0 0 0 0 0 em9 em9 em9 em9 0 none 0 0 none 0 0 noF10
      have hB9 : Below w.heap.size w _ := (((((((((((((hR5.bel.setCell (p := ⟨w.heap.size, 0, none⟩) (Nat.le_refl _) (.int .i64 0)).setCell (p := ⟨w.heap.size, 1, none⟩) (Nat.le_refl _) (.int .i64 0)).setCell (p := ⟨w.heap.size, 2, none⟩) (Nat.le_refl _) (.int .i64 0)).setCell (p := ⟨w.heap.size, 3, none⟩) (Nat.le_refl _) (.int .i64 0)).setCell (p := ⟨w.heap.size, 4, none⟩) (Nat.le_refl _) (.int .i64 0)).setCell (p := ⟨w.heap.size, 5, none⟩) (Nat.le_refl _) (.int .i64 0)).setCell (p := ⟨w.heap.size, 6, none⟩) (Nat.le_refl _) (.string em9)).setCell (p := ⟨w.heap.size, 7, none⟩) (Nat.le_refl _) (.string em9)).setCell (p := ⟨w.heap.size, 8, none⟩) (Nat.le_refl _) (.string em9)).setCell (p := ⟨w.heap.size, 9, none⟩) (Nat.le_refl _) (.string em9)).setCell (p := ⟨w.heap.size, 10, none⟩) (Nat.le_refl _) (.int .i64 0)).setCell (p := ⟨w.heap.size, 11, none⟩) (Nat.le_refl _) (.slice none 0 0)).setCell (p := ⟨w.heap.size, 12, none⟩) (Nat.le_refl _) (.slice none 0 0))
      refine bodyPost_ret (ret_cell9 rfl _ _ w.heap.size _ _ _ _ rfl hF Tryz.underlying30 rfl (by kernel_rfl)) rfl ⟨noEV, ?_, ?_, (OwnsE.nil _ w.heap.size).fits, hB9⟩
      · rw [HW.out]; rfl
      · rw [HW.out]; rfl
    | true =>
      have HW : Hid (R = (x0, 0)) := by rw [Hid, HW0.out]; rfl
      clear HW0
      have c0 := box_cell hbn5 0
      have d0 := box_cell hbox5 0
      have c1 := box_cell hbn5 1
      have d1 := box_cell hbox5 1
      have c2 := box_cell hbn5 2
      have d2 := box_cell hbox5 2
      have c3 := box_cell hbn5 3
      have d3 := box_cell hbox5 3
      have c4 := box_cell hbn5 4
      have d4 := box_cell hbox5 4
      have c5 := box_cell hbn5 5
      have d5 := box_cell hbox5 5
      have c6 := box_cell hbn5 6
      have d6 := box_cell hbox5 6
      have c7 := box_cell hbn5 7
      have d7 := box_cell hbox5 7
      have c8 := box_cell hbn5 8
      have d8 := box_cell hbox5 8
      have c9 := box_cell hbn5 9
      have d9 := box_cell hbox5 9
      have c10 := box_cell hbn5 10
      have d10 := box_cell hbox5 10
      have c11 := box_cell hbn5 11
      have d11 := box_cell hbox5 11
      have c12 := box_cell hbn5 12
      have d12 := box_cell hbox5 12
      dsimp only [EntV.arr, noEV, zeroC9, noFV, nilS10] at c0 d0 c1 d1 c2 d2 c3 d3 c4 d4 c5 d5 c6 d6 c7 d7 c8 d8 c9 d9 c10 d10 c11 d11 c12 d12
      have hlx := box_lt hbn5
      have hlr := box_lt hbox5
      have fb := frozen9 hbox5
      go_wp2
      have hF := fillE (b := w.heap.size) (x0 := noEV) hbox5 i t k ck cs cq ckey cold cval cunt clim p n c q m d f
      have hO9 := ((((((((((((((((((((((((((hM5).cell (b := w.heap.size) (by omega) 0 (.int .i64 i))).cell (b := w.heap.size) (by omega) 1 (.int .i64 t))).cell (b := w.heap.size) (by omega) 2 (.int .i64 k))).cell (b := w.heap.size) (by omega) 3 (.int .i64 ck))).cell (b := w.heap.size) (by omega) 4 (.int .i64 cs))).cell (b := w.heap.size) (by omega) 5 (.int .i64 cq))).cell (b := w.heap.size) (by omega) 6 (.string ckey))).cell (b := w.heap.size) (by omega) 7 (.string cold))).cell (b := w.heap.size) (by omega) 8 (.string cval))).cell (b := w.heap.size) (by omega) 9 (.string cunt))).cell (b := w.heap.size) (by omega) 10 (.int .i64 clim))).cell (b := w.heap.size) (by omega) 11 (.slice p n c))).cell (b := w.heap.size) (by omega) 12 (.slice q m d))
      have hB9 : Below w.heap.size w _ := (((((((((((((hR5.bel.setCell (p := ⟨w.heap.size, 0, none⟩) (Nat.le_refl _) (.int .i64 i)).setCell (p := ⟨w.heap.size, 1, none⟩) (Nat.le_refl _) (.int .i64 t)).setCell (p := ⟨w.heap.size, 2, none⟩) (Nat.le_refl _) (.int .i64 k)).setCell (p := ⟨w.heap.size, 3, none⟩) (Nat.le_refl _) (.int .i64 ck)).setCell (p := ⟨w.heap.size, 4, none⟩) (Nat.le_refl _) (.int .i64 cs)).setCell (p := ⟨w.heap.size, 5, none⟩) (Nat.le_refl _) (.int .i64 cq)).setCell (p := ⟨w.heap.size, 6, none⟩) (Nat.le_refl _) (.string ckey)).setCell (p := ⟨w.heap.size, 7, none⟩) (Nat.le_refl _) (.string cold)).setCell (p := ⟨w.heap.size, 8, none⟩) (Nat.le_refl _) (.string cval)).setCell (p := ⟨w.heap.size, 9, none⟩) (Nat.le_refl _) (.string cunt)).setCell (p := ⟨w.heap.size, 10, none⟩) (Nat.le_refl _) (.int .i64 clim)).setCell (p := ⟨w.heap.size, 11, none⟩) (Nat.le_refl _) (.slice p n c)).setCell (p := ⟨w.heap.size, 12, none⟩) (Nat.le_refl _) (.slice q m d))
      refine bodyPost_ret (ret_cell9 rfl _ _ w.heap.size _ _ _ _ rfl hF Tryz.underlying30 rfl (by kernel_rfl)) rfl ⟨⟨i, t, k, ⟨ck, cs, cq, ckey, cold, cval, cunt, clim⟩, ⟨⟨p, n, c⟩, ⟨q, m, d⟩, f⟩⟩, ?_, ?_, hO9.fits, hB9⟩
      · rw [HW.out]; rfl
      · rw [HW.out]; exact HX.out

set_option maxRecDepth 100000 in
set_option maxHeartbeats 4000000 in
theorem rreadS_any (v : Value) (xs : List Int) (w : World) (hv : Has w v xs) (hB : IsB xs) (hl : xs.length ≤ 1073741824) :
    Calls Tryz.prog 11 #[v] w fun e w' => ∃ X : SnapV, e = .returned (.tuple #[.agg X.arr, .int .i64 (whole10 goodS10 noS10 (snap10 9 (xs, false))).2]) ∧ X.s = (whole10 goodS10 noS10 (snap10 9 (xs, false))).1 ∧ FitsS w' X ∧ Below w.heap.size w w' := by
  have hb1 : Below w.heap.size w (w.alloc (.cells #[.int .i64 0, .int .i64 0, .slice none 0 0, .slice none 0 0, .slice none 0 0] 43)) := (Below.refl _ _).alloc (Nat.le_refl _) _
  have hbox : SnapAt (w.alloc (.cells #[.int .i64 0, .int .i64 0, .slice none 0 0, .slice none 0 0, .slice none 0 0] 43)) w.heap.size noSV := heap_alloc_new w _
  have hz1 : (w.alloc (.cells #[.int .i64 0, .int .i64 0, .slice none 0 0, .slice none 0 0, .slice none 0 0] 43)).heap.size = w.heap.size + 1 := by simp
  have hR := Rdr.make hb1 hv hB hl 72
  have hsl : ∃ p n c, v = .slice p n c := by
    obtain ⟨p, c, hp, -⟩ := hv
    exact ⟨p, _, c, hp⟩
  have hb2 : Below (w.alloc (.cells #[.int .i64 0, .int .i64 0, .slice none 0 0, .slice none 0 0, .slice none 0 0] 43)).heap.size (w.alloc (.cells #[.int .i64 0, .int .i64 0, .slice none 0 0, .slice none 0 0, .slice none 0 0] 43)) ((w.alloc (.cells #[.int .i64 0, .int .i64 0, .slice none 0 0, .slice none 0 0, .slice none 0 0] 43)).alloc (.cells #[v, .bool false] 72)) := (Below.refl _ _).alloc (Nat.le_refl _) _
  have hbox2 : SnapAt _ w.heap.size noSV := box_below hbox hb2
  have hz2 : ((w.alloc (.cells #[.int .i64 0, .int .i64 0, .slice none 0 0, .slice none 0 0, .slice none 0 0] 43)).alloc (.cells #[v, .bool false] 72)).heap.size = w.heap.size + 2 := by simp
  have k1 := rsnapR_any w _ _ (xs, false) hR
  have HW1 : Hid (∀ x S', Tell10 (snap10 1000000 (xs, false)) x S' → whole10 goodS10 noS10 (snap10 9 (xs, false)) = if (S'.1.isEmpty && !S'.2) && goodS10 x then (x, 0) else (noS10, 8)) := fun x S' ht => by
    rw [(snap10_sim 1000000 (by decide)).whole noS10 (xs, false), ← ht.whole]
    rfl
  generalize whole10 goodS10 noS10 (snap10 9 (xs, false)) = R at *
  obtain ⟨p0, n0, c0_, rfl⟩ := hsl
  rw [hz1] at k1 hR
  clear hR hv hB hbox hb2 hb1 hz1
  go_enter Tryz.func11, Tryz.ntmps11
  go_wp2_with fail
  generalize (w.alloc (.cells #[.int .i64 0, .int .i64 0, .slice none 0 0, .slice none 0 0, .slice none 0 0] 43)).alloc (.cells #[.slice p0 n0 c0_, .bool false] 72) = W2 at *
  refine k1.mono ?_
  rintro _ w3 ⟨X, S1, rfl, hM, hT, hR3, hg3⟩
  have hbox3 : SnapAt w3 w.heap.size noSV := grown_box hg3 hbox2 (by omega)
  have hsz3 := hg3.size
  have HW0 : Hid (R = if (S1.1.isEmpty && !S1.2) && goodS10 X.s then (X.s, 0) else (noS10, 8)) := HW1.out _ _ hT
  have hb4 : Below w3.heap.size w3 (w3.alloc (.cells X.arr 43)) := (Below.refl _ _).alloc (Nat.le_refl _) _
  have hbn : SnapAt (w3.alloc (.cells X.arr 43)) w3.heap.size X := heap_alloc_new w3 _
  have hbox4 := box_below hbox3 hb4
  have hR4 := hR3.more hb4
  have hM4 := hM.below hb4
  have kg := rgoodSnap_any X _ hM4.fits
  have kf := hR4.rfin
  have HX : Hid (X.s = X.s) := rfl
  clear k1 hbox2 hbox3 hM hT hR3 hg3 hb4 HW1
  generalize hgx : goodS10 X.s = gx at *
  clear hgx
  generalize hx0 : X.s = x0 at *
  replace HX : Hid (X.s = x0) := hx0
  clear hx0
  obtain ⟨si, st, ⟨⟨p, n, c⟩, ⟨q, m, d⟩, f⟩, ⟨a, b0, e0⟩, dd⟩ := X
  unfold SnapV.arr at *
  dsimp only at *
  go_wp2_with fail
  generalize w3.alloc (.cells #[.int .i64 si, .int .i64 st, .slice p n c, .slice q m d, .slice a b0 e0] 43) = W4 at *
  replace hbox4 : SnapAt W4 w.heap.size noSV := hbox4
  replace hbn : SnapAt W4 w3.heap.size ⟨si, st, ⟨⟨p, n, c⟩, ⟨q, m, d⟩, f⟩, ⟨a, b0, e0⟩, dd⟩ := hbn
  generalize hbx : w3.heap.size = bx at *
  clear hbx
  generalize hfi : (S1.1.isEmpty && !S1.2) = fi at *
  clear hfi
  cases fi with
  | false =>
    have HW : Hid (R = (noS10, 8)) := by rw [Hid, HW0.out]; rfl
    clear HW0
    refine same_mono kf ?_
    have d0 := box_cell hbox4 0
    have d1 := box_cell hbox4 1
    have d2 := box_cell hbox4 2
    have d3 := box_cell hbox4 3
    have d4 := box_cell hbox4 4
    have fb := frozen9 hbox4
    have hlr := box_lt hbox4
    dsimp only [SnapV.arr, noSV, noFV, nilS10] at d0 d1 d2 d3 d4
    go_wp2
    have hF := fillS (b := w.heap.size) (x0 := noSV) hbox4 0 0 none 0 0 none 0 0 none 0 0 noF10 []
    have hB9 : Below w.heap.size w _ := (((((hR4.bel.setCell (p := ⟨w.heap.size, 0, none⟩) (Nat.le_refl _) (.int .i64 0)).setCell (p := ⟨w.heap.size, 1, none⟩) (Nat.le_refl _) (.int .i64 0)).setCell (p := ⟨w.heap.size, 2, none⟩) (Nat.le_refl _) (.slice none 0 0)).setCell (p := ⟨w.heap.size, 3, none⟩) (Nat.le_refl _) (.slice none 0 0)).setCell (p := ⟨w.heap.size, 4, none⟩) (Nat.le_refl _) (.slice none 0 0))
    refine bodyPost_ret (ret_cell9 rfl _ _ w.heap.size _ _ _ _ rfl hF Tryz.underlying43 rfl (by kernel_rfl)) rfl ⟨noSV, ?_, ?_, (LiesS.nil _ w.heap.size).fits, hB9⟩
    · rw [HW.out]; rfl
    · rw [HW.out]; rfl
  | true =>
    refine same_mono kf ?_
    clear kf
    have c0 := box_cell hbn 0
    have c1 := box_cell hbn 1
    have c2 := box_cell hbn 2
    have c3 := box_cell hbn 3
    have c4 := box_cell hbn 4
    have hlx := box_lt hbn
    dsimp only [SnapV.arr] at c0 c1 c2 c3 c4
    go_wp2_with fail
    refine kg.mono ?_
    rintro _ w5 ⟨rfl, hb5⟩
    have hbn5 : SnapAt w5 bx ⟨si, st, ⟨⟨p, n, c⟩, ⟨q, m, d⟩, f⟩, ⟨a, b0, e0⟩, dd⟩ := box_below hbn hb5
    have hbox5 : SnapAt w5 w.heap.size noSV := box_below hbox4 hb5
    have hR5 := hR4.more hb5
    have hM5 := hM4.below hb5
    clear kg hbn hbox4 hR4 hM4 hb5 c0 c1 c2 c3 c4 hlx
    cases gx with
    | false =>
      have HW : Hid (R = (noS10, 8)) := by rw [Hid, HW0.out]; rfl
      clear HW0
      have d0 := box_cell hbox5 0
      have d1 := box_cell hbox5 1
      have d2 := box_cell hbox5 2
      have d3 := box_cell hbox5 3
      have d4 := box_cell hbox5 4
      have fb := frozen9 hbox5
      have hlr := box_lt hbox5
      dsimp only [SnapV.arr, noSV, noFV, nilS10] at d0 d1 d2 d3 d4
      go_wp2
      have hF := fillS (b := w.heap.size) (x0 := noSV) hbox5 0 0 none 0 0 none 0 0 none 0 0 noF10 []
      have hB9 : Below w.heap.size w _ := (((((hR5.bel.setCell (p := ⟨w.heap.size, 0, none⟩) (Nat.le_refl _) (.int .i64 0)).setCell (p := ⟨w.heap.size, 1, none⟩) (Nat.le_refl _) (.int .i64 0)).setCell (p := ⟨w.heap.size, 2, none⟩) (Nat.le_refl _) (.slice none 0 0)).setCell (p := ⟨w.heap.size, 3, none⟩) (Nat.le_refl _) (.slice none 0 0)).setCell (p := ⟨w.heap.size, 4, none⟩) (Nat.le_refl _) (.slice none 0 0))
      refine bodyPost_ret (ret_cell9 rfl _ _ w.heap.size _ _ _ _ rfl hF Tryz.underlying43 rfl (by kernel_rfl)) rfl ⟨noSV, ?_, ?_, (LiesS.nil _ w.heap.size).fits, hB9⟩
      · rw [HW.out]; rfl
      · rw [HW.out]; rfl
    | true =>
      have HW : Hid (R = (x0, 0)) := by rw [Hid, HW0.out]; rfl
      clear HW0
      have c0 := box_cell hbn5 0
      have d0 := box_cell hbox5 0
      have c1 := box_cell hbn5 1
      have d1 := box_cell hbox5 1
      have c2 := box_cell hbn5 2
      have d2 := box_cell hbox5 2
      have c3 := box_cell hbn5 3
      have d3 := box_cell hbox5 3
      have c4 := box_cell hbn5 4
      have d4 := box_cell hbox5 4
      dsimp only [SnapV.arr, noSV, noFV, nilS10] at c0 d0 c1 d1 c2 d2 c3 d3 c4 d4
      have hlx := box_lt hbn5
      have hlr := box_lt hbox5
      have fb := frozen9 hbox5
      go_wp2
      have hF := fillS (b := w.heap.size) (x0 := noSV) hbox5 si st p n c q m d a b0 e0 f dd
      have hO9 := ((((((((((hM5).cell (b := w.heap.size) (by omega) 0 (.int .i64 si))).cell (b := w.heap.size) (by omega) 1 (.int .i64 st))).cell (b := w.heap.size) (by omega) 2 (.slice p n c))).cell (b := w.heap.size) (by omega) 3 (.slice q m d))).cell (b := w.heap.size) (by omega) 4 (.slice a b0 e0))
      have hB9 : Below w.heap.size w _ := (((((hR5.bel.setCell (p := ⟨w.heap.size, 0, none⟩) (Nat.le_refl _) (.int .i64 si)).setCell (p := ⟨w.heap.size, 1, none⟩) (Nat.le_refl _) (.int .i64 st)).setCell (p := ⟨w.heap.size, 2, none⟩) (Nat.le_refl _) (.slice p n c)).setCell (p := ⟨w.heap.size, 3, none⟩) (Nat.le_refl _) (.slice q m d)).setCell (p := ⟨w.heap.size, 4, none⟩) (Nat.le_refl _) (.slice a b0 e0))
      refine bodyPost_ret (ret_cell9 rfl _ _ w.heap.size _ _ _ _ rfl hF Tryz.underlying43 rfl (by kernel_rfl)) rfl ⟨⟨si, st, ⟨⟨p, n, c⟩, ⟨q, m, d⟩, f⟩, ⟨a, b0, e0⟩, dd⟩, ?_, ?_, hO9.fits, hB9⟩
      · rw [HW.out]; rfl
      · rw [HW.out]; exact HX.out
end Go.Proofs.YtnbaoimjcaeeaaaGreat

/-
  Contracts: corbelref10.GoodHard, ReadHard.
-/
namespace Go.Proofs.YtnbaoimjcaeeaaaGreat
open Go.RowKit Go.Shelf

set_option maxRecDepth 100000 in
set_option maxHeartbeats 2000000 in
theorem rgoodHard_any (x : Hard10) (w : World) : Calls Tryz.prog 36 #[.agg x.arr] w fun e w' => e = .returned (.bool (goodH10 x)) ∧ Below w.heap.size w w' := by
  have hb1 : Below w.heap.size w (w.alloc (.cells x.arr 37)) := (Below.refl _ _).alloc (Nat.le_refl _) _
  have HG : Hid (goodH10 x = (decide (0 ≤ x.t) && decide (0 ≤ x.v) && decide (0 ≤ x.c))) := rfl
  generalize goodH10 x = r at *
  obtain ⟨ht, hv, hc⟩ := x
  unfold Hard10.arr at *
  dsimp only at *
  by_cases h1 : 0 ≤ ht
  case neg =>
    have HF : Hid (r = false) := by rw [Hid, HG.out, decide_eq_false h1]; rfl
    clear HG
    go_enter Tryz.func36, Tryz.ntmps36
    go_wp2
    go_ret
    rw [HF.out]
    exact ⟨rfl, hb1⟩
  by_cases h2 : 0 ≤ hv
  case neg =>
    have HF : Hid (r = false) := by rw [Hid, HG.out, decide_eq_false h2]; simp
    clear HG
    go_enter Tryz.func36, Tryz.ntmps36
    go_wp2
    go_ret
    rw [HF.out]
    exact ⟨rfl, hb1⟩
  have HF : Hid (r = decide (0 ≤ hc)) := by rw [Hid, HG.out, decide_eq_true h1, decide_eq_true h2]; rfl
  clear HG
  go_enter Tryz.func36, Tryz.ntmps36
  go_wp2
  go_ret
  rw [HF.out]
  exact ⟨rfl, hb1⟩

/-- The result's box, the reader, the box that is being filled: made in this order. -/
structure RdH (w wc : World) (S : St) (a z : Array Value) : Prop where
  r : Rdr w wc (w.heap.size + 1) S
  box : wc.heap[w.heap.size + 2]? = some (.cells a 37 (0, 0))
  res : wc.heap[w.heap.size]? = some (.cells z 37 (0, 0))
theorem RdH.left {w wc wd : World} {S S' : St} {a z : Array Value} (h : RdH w wc S a z) (hl : Left10 w wc (w.heap.size + 1) S' wd) : RdH w wd S' a z := ⟨hl.1, grown_box hl.2 h.box (by omega), grown_box hl.2 h.res (by omega)⟩
theorem RdH.put {w wc : World} {S : St} {a z : Array Value} (h : RdH w wc S a z) (i : Nat) (v : Value) (hi : i < a.size) : RdH w (wc.setCell ⟨w.heap.size + 2, i, none⟩ v) S (a.set i v hi) z :=
  ⟨h.r.cell (by omega) (by omega) i v, set_block9 h.box i v hi, grown_box (grown_set wc (w.heap.size + 2) i v) h.res (by omega)⟩
theorem RdH.more {w wc wd : World} {S : St} {a z : Array Value} (h : RdH w wc S a z) (hb : Below wc.heap.size wc wd) : RdH w wd S a z := ⟨h.r.more hb, box_below h.box hb, box_below h.res hb⟩

set_option maxRecDepth 100000 in
set_option maxHeartbeats 4000000 in
theorem rreadH_any (v : Value) (xs : List Int) (w : World) (hv : Has w v xs) (hB : IsB xs) (hl : xs.length ≤ 1073741824) :
    Calls Tryz.prog 9 #[v] w fun e w' => ∃ X : Hard10, e = .returned (.tuple #[.agg X.arr, .int .i64 (whole10 goodH10 noH10 (hard10 (xs, false))).2]) ∧ X = (whole10 goodH10 noH10 (hard10 (xs, false))).1 ∧ Below w.heap.size w w' := by
  have hb1 : Below w.heap.size w (w.alloc (.cells #[.int .i64 0, .int .i64 0, .int .i64 0] 37)) := (Below.refl _ _).alloc (Nat.le_refl _) _
  have hbox : HardAt (w.alloc (.cells #[.int .i64 0, .int .i64 0, .int .i64 0] 37)) w.heap.size noH10 := heap_alloc_new w _
  have hz1 : (w.alloc (.cells #[.int .i64 0, .int .i64 0, .int .i64 0] 37)).heap.size = w.heap.size + 1 := by simp
  have hR := Rdr.make hb1 hv hB hl 72
  have hsl : ∃ p n c, v = .slice p n c := by
    obtain ⟨p, c, hp, -⟩ := hv
    exact ⟨p, _, c, hp⟩
  have hb2 : Below (w.alloc (.cells #[.int .i64 0, .int .i64 0, .int .i64 0] 37)).heap.size (w.alloc (.cells #[.int .i64 0, .int .i64 0, .int .i64 0] 37)) ((w.alloc (.cells #[.int .i64 0, .int .i64 0, .int .i64 0] 37)).alloc (.cells #[v, .bool false] 72)) := (Below.refl _ _).alloc (Nat.le_refl _) _
  have hb3 := (Below.refl _ ((w.alloc (.cells #[.int .i64 0, .int .i64 0, .int .i64 0] 37)).alloc (.cells #[v, .bool false] 72))).alloc (Nat.le_refl _) (.cells #[.int .i64 0, .int .i64 0, .int .i64 0] 37)
  have hz2 : ((w.alloc (.cells #[.int .i64 0, .int .i64 0, .int .i64 0] 37)).alloc (.cells #[v, .bool false] 72)).heap.size = w.heap.size + 2 := by simp
  have hn := heap_alloc_new ((w.alloc (.cells #[.int .i64 0, .int .i64 0, .int .i64 0] 37)).alloc (.cells #[v, .bool false] 72)) (.cells #[.int .i64 0, .int .i64 0, .int .i64 0] 37)
  rw [hz2] at hn
  rw [hz1] at hR
  have h0 : RdH w _ (xs, false) #[.int .i64 0, .int .i64 0, .int .i64 0] #[.int .i64 0, .int .i64 0, .int .i64 0] := ⟨hR.more hb3, hn, box_below (box_below hbox hb2) hb3⟩
  have HC : Hid (whole10 goodH10 noH10 (hard10 (xs, false)) = if ((int9 (int9 (int9 (xs, false)).2).2).2.1.isEmpty && !(int9 (int9 (int9 (xs, false)).2).2).2.2) && goodH10 ⟨(int9 (xs, false)).1, (int9 (int9 (xs, false)).2).1, (int9 (int9 (int9 (xs, false)).2).2).1⟩ then (⟨(int9 (xs, false)).1, (int9 (int9 (xs, false)).2).1, (int9 (int9 (int9 (xs, false)).2).2).1⟩, 0) else (noH10, 8)) := by
    rw [Hid, hard10_is]
    rfl
  have HI : Hid (xs.length = xs.length) := rfl
  generalize whole10 goodH10 noH10 (hard10 (xs, false)) = R at *
  obtain ⟨p0, n0, c0_, rfl⟩ := hsl
  clear hR hv hB hbox hb2 hb1 hz1 hb3 hn hz2
  generalize ((xs, false) : St) = S0 at *
  go_enter Tryz.func9, Tryz.ntmps9
  have ki0 := h0.r.rint
  go_wp2_with fail
  refine ki0.mono ?_
  rintro _ y0 ⟨rfl, hl0⟩
  have g0 := h0.left hl0
  clear h0 ki0 hl0
  generalize int9 S0 = A at *
  obtain ⟨z0, S1⟩ := A
  dsimp only at g0 HC HI
  have c0 := box_cell g0.box 0
  have fb := frozen9 g0.box
  have hlb := box_lt g0.box
  go_upto_region 4 with fail
  have h1 : RdH w _ S1 #[.int .i64 z0, .int .i64 0, .int .i64 0] #[.int .i64 0, .int .i64 0, .int .i64 0] := g0.put 0 (.int .i64 z0) (by show 0 < 3; omega)
  clear g0 c0 fb hlb
  generalize y0.setCell ⟨w.heap.size + 2, 0, none⟩ (.int .i64 z0) = X0 at *
  have ki1 := h1.r.rint
  go_wp2_with fail
  refine ki1.mono ?_
  rintro _ y1 ⟨rfl, hl1⟩
  have g1 := h1.left hl1
  clear h1 ki1 hl1
  generalize int9 S1 = A at *
  obtain ⟨z1, S2⟩ := A
  dsimp only at g1 HC HI
  have c1 := box_cell g1.box 1
  have fb := frozen9 g1.box
  have hlb := box_lt g1.box
  go_upto_region 5 with fail
  have h2 : RdH w _ S2 #[.int .i64 z0, .int .i64 z1, .int .i64 0] #[.int .i64 0, .int .i64 0, .int .i64 0] := g1.put 1 (.int .i64 z1) (by show 1 < 3; omega)
  clear g1 c1 fb hlb
  generalize y1.setCell ⟨w.heap.size + 2, 1, none⟩ (.int .i64 z1) = X1 at *
  have ki2 := h2.r.rint
  go_wp2_with fail
  refine ki2.mono ?_
  rintro _ y2 ⟨rfl, hl2⟩
  have g2 := h2.left hl2
  clear h2 ki2 hl2
  generalize int9 S2 = A at *
  obtain ⟨z2, S3⟩ := A
  dsimp only at g2 HC HI
  have c2 := box_cell g2.box 2
  have fb := frozen9 g2.box
  have hlb := box_lt g2.box
  go_upto_region 6 with fail
  have h3 : RdH w _ S3 #[.int .i64 z0, .int .i64 z1, .int .i64 z2] #[.int .i64 0, .int .i64 0, .int .i64 0] := g2.put 2 (.int .i64 z2) (by show 2 < 3; omega)
  clear g2 c2 fb hlb
  generalize y2.setCell ⟨w.heap.size + 2, 2, none⟩ (.int .i64 z2) = X2 at *
  have kf := h3.r.rfin
  generalize hfi : (S3.1.isEmpty && !S3.2) = fi at *
  clear hfi
  go_wp2_with fail
  refine same_mono kf ?_
  clear kf
  cases fi with
  | false =>
    have HW : Hid (R = (noH10, 8)) := by rw [Hid, HC.out]; rfl
    clear HC
    have d0 := box_cell h3.res 0
    have d1 := box_cell h3.res 1
    have d2 := box_cell h3.res 2
    have fb := frozen9 h3.res
    have hlr := box_lt h3.res
    go_wp2
    have hF := fillH (b := w.heap.size) (x0 := noH10) h3.res 0 0 0
    have hB9 : Below w.heap.size w _ := (((h3.r.bel.setCell (p := ⟨w.heap.size, 0, none⟩) (Nat.le_refl _) (.int .i64 0)).setCell (p := ⟨w.heap.size, 1, none⟩) (Nat.le_refl _) (.int .i64 0)).setCell (p := ⟨w.heap.size, 2, none⟩) (Nat.le_refl _) (.int .i64 0))
    refine bodyPost_ret (ret_cell9 rfl _ _ w.heap.size _ _ _ _ rfl hF Tryz.underlying37 rfl (by kernel_rfl)) rfl ⟨noH10, ?_, ?_, hB9⟩
    · rw [HW.out]; rfl
    · rw [HW.out]
  | true =>
    have kg := rgoodHard_any ⟨z0, z1, z2⟩ X2
    generalize hgx : goodH10 ⟨z0, z1, z2⟩ = gx at *
    clear hgx
    unfold Hard10.arr at kg
    dsimp only at kg
    have c0 := box_cell h3.box 0
    have c1 := box_cell h3.box 1
    have c2 := box_cell h3.box 2
    have hlx := box_lt h3.box
    go_wp2_with fail
    refine kg.mono ?_
    rintro _ w5 ⟨rfl, hb5⟩
    have h5 := h3.more hb5
    clear kg h3 hb5 c0 c1 c2 hlx
    cases gx with
    | false =>
      have HW : Hid (R = (noH10, 8)) := by rw [Hid, HC.out]; rfl
      clear HC
      have d0 := box_cell h5.res 0
      have d1 := box_cell h5.res 1
      have d2 := box_cell h5.res 2
      have fb := frozen9 h5.res
      have hlr := box_lt h5.res
      go_wp2
      have hF := fillH (b := w.heap.size) (x0 := noH10) h5.res 0 0 0
      have hB9 : Below w.heap.size w _ := (((h5.r.bel.setCell (p := ⟨w.heap.size, 0, none⟩) (Nat.le_refl _) (.int .i64 0)).setCell (p := ⟨w.heap.size, 1, none⟩) (Nat.le_refl _) (.int .i64 0)).setCell (p := ⟨w.heap.size, 2, none⟩) (Nat.le_refl _) (.int .i64 0))
      refine bodyPost_ret (ret_cell9 rfl _ _ w.heap.size _ _ _ _ rfl hF Tryz.underlying37 rfl (by kernel_rfl)) rfl ⟨noH10, ?_, ?_, hB9⟩
      · rw [HW.out]; rfl
      · rw [HW.out]
    | true =>
      have HW : Hid (R = (⟨z0, z1, z2⟩, 0)) := by rw [Hid, HC.out]; rfl
      clear HC
      have c0 := box_cell h5.box 0
      have c1 := box_cell h5.box 1
      have c2 := box_cell h5.box 2
      have d0 := box_cell h5.res 0
      have d1 := box_cell h5.res 1
      have d2 := box_cell h5.res 2
      have hlx := box_lt h5.box
      have hlr := box_lt h5.res
      have fb := frozen9 h5.res
      go_wp2
      have hF := fillH (b := w.heap.size) (x0 := noH10) h5.res z0 z1 z2
      have hB9 : Below w.heap.size w _ := (((h5.r.bel.setCell (p := ⟨w.heap.size, 0, none⟩) (Nat.le_refl _) (.int .i64 z0)).setCell (p := ⟨w.heap.size, 1, none⟩) (Nat.le_refl _) (.int .i64 z1)).setCell (p := ⟨w.heap.size, 2, none⟩) (Nat.le_refl _) (.int .i64 z2))
      refine bodyPost_ret (ret_cell9 rfl _ _ w.heap.size _ _ _ _ rfl hF Tryz.underlying37 rfl (by kernel_rfl)) rfl ⟨⟨z0, z1, z2⟩, ?_, ?_, hB9⟩
      · rw [HW.out]; rfl
      · rw [HW.out]
end Go.Proofs.YtnbaoimjcaeeaaaGreat
