import Derived.Test.YtnbaoimjcaeeaaaGreatEq2To
import Derived.Test.YtnbaoimjcaeeaaaGreatEo4To
/-
  Contracts: corbelref10.readSnap.
-/
namespace Go.Proofs.YtnbaoimjcaeeaaaGreat
open Go.RowKit Go.Shelf

theorem Has.grownB {w w' : World} {B r : Nat} {v : Value} {xs : List Int} (h : Has w v xs) (hk : ∀ k, v.ownBlock = some k → B ≤ k) (hg : w.grownBy w' (some r)) (hr : r < B) : Has w' v xs := by
  obtain ⟨p, c, rfl, h1, h2, h3⟩ := h
  refine ⟨p, c, rfl, h1, h2, fun h0 => ?_⟩
  obtain ⟨b, o, rfl, hb, hc⟩ := h3 h0
  have hB := hk b rfl
  refine ⟨b, o, rfl, Nat.lt_of_lt_of_le hb hg.size, fun i hi => ?_⟩
  rw [← hc i hi]
  unfold World.cell?
  dsimp only
  rw [hg.block b hb (by intro e; have := Option.some.inj e; omega)]
/-- A snapshot that the call made; its bytes lie in a block of their own. -/
structure LiesS (w : World) (B : Nat) (x : SnapV) : Prop where
  i : inI x.i
  t : inI x.t
  f : OwnsF w B x.f
  w : Has w (.slice x.w.p x.w.n x.w.c) x.d
  k : ∀ k, Value.ownBlock (.slice x.w.p x.w.n x.w.c) = some k → B ≤ k
  b : IsB x.d
  l : x.d.length ≤ 1073741824
theorem LiesS.fits {w : World} {B : Nat} {x : SnapV} (h : LiesS w B x) : FitsS w x := ⟨h.i, h.t, h.f.fits, h.w, h.b, Nat.le_trans h.l (by decide)⟩
theorem LiesS.mono {w : World} {B B' : Nat} {x : SnapV} (h : LiesS w B x) (hB : B' ≤ B) : LiesS w B' x := ⟨h.i, h.t, h.f.mono hB, h.w, fun k hk => Nat.le_trans hB (h.k k hk), h.b, h.l⟩
theorem LiesS.kept {w w' : World} {B r : Nat} {x : SnapV} (h : LiesS w B x) (hg : w.grownBy w' (some r)) (hr : r < B) : LiesS w' B x := ⟨h.i, h.t, h.f.kept hg hr, h.w.grownB h.k hg hr, h.k, h.b, h.l⟩
theorem LiesS.cell {w : World} {B b : Nat} {x : SnapV} (h : LiesS w B x) (hb : b < B) (i : Nat) (v : Value) : LiesS (w.setCell ⟨b, i, none⟩ v) B x := h.kept (grown_set w b i v) hb
theorem LiesS.below {w w' : World} {B : Nat} {x : SnapV} (h : LiesS w B x) (hb : Below w.heap.size w w') : LiesS w' B x := ⟨h.i, h.t, h.f.below hb, h.w.below hb (Nat.le_refl _), h.k, h.b, h.l⟩
theorem LiesS.nil (w : World) (B : Nat) : LiesS w B noSV := ⟨⟨by decide, by decide⟩, ⟨by decide, by decide⟩, OwnsF.nil w B, Has.nil w, (fun _ h => by cases h), IsB.nil, Nat.zero_le _⟩
/-- What the document's reader of a snapshot leaves. -/
def TellsS (w0 w : World) (rb : Nat) (R : Snap10 × St) (e : Ending) (w' : World) : Prop := ∃ (X : SnapV) (S' : St), e = .returned (.agg X.arr) ∧ LiesS w' w.heap.size X ∧ Tell10 R X.s S' ∧ Left10 w0 w rb S' w'
theorem snap10_tell {m : Int} {S0 S1 S2 S3 : St} {i t : Int} {f : Conf10} (e0 : int9 S0 = (i, S1)) (e1 : int9 S1 = (t, S2)) (ht : Tell10 (conf10 m S2) f S3) : Tell10 (snap10 m S0) ⟨i, t, f, (byt10 S3).1⟩ (byt10 S3).2 := by
  rw [snap10_bind, bindR_eq e0, bindR_eq e1]
  exact Tell10.bind ht (.inl rfl) (fun _ => stays_byt.bind fun _ => Stays.ret _) fun hw => stays_byt _ hw


set_option maxRecDepth 100000 in
set_option maxHeartbeats 4000000 in
theorem rsnapR_any (w0 w : World) (rb : Nat) (S0 : St) (h : Rdr w0 w rb S0) :
    Calls Tryz.prog 40 #[.pointer (some ⟨rb, 0, none⟩)] w (TellsS w0 w rb (snap10 1000000 S0)) := by
  have h0 : RdX w0 w _ rb S0 43 #[.int .i64 0, .int .i64 0, .slice none 0 0, .slice none 0 0, .slice none 0 0] #[.int .i64 0, .int .i64 0, .slice none 0 0, .slice none 0 0, .slice none 0 0] := RdX.new h 43 #[.int .i64 0, .int .i64 0, .slice none 0 0, .slice none 0 0, .slice none 0 0]
  have hrl := h.lt
  clear h
  generalize hR : snap10 1000000 S0 = R
  have HR : Hid (snap10 1000000 S0 = R) := hR
  clear hR
  go_enter Tryz.func40, Tryz.ntmps40
  have ki0 := h0.r.rint
  have HI0 : Hid (inI (int9 S0).1) := int9_in _
  go_wp2_with fail
  refine ki0.mono ?_
  rintro _ y0 ⟨rfl, hl0⟩
  have g0 := h0.left hl0
  clear h0 ki0 hl0
  generalize hA : int9 S0 = A at *
  obtain ⟨z0, S1⟩ := A
  have E0 : Hid (int9 S0 = (z0, S1)) := hA
  clear hA
  dsimp only at g0 HI0
  have c0 := box_cell g0.box 0
  have fb := frozen9 g0.box
  have hlb := box_lt g0.box
  go_upto_region 3 with fail
  have h1 : RdX w0 w _ rb S1 43 #[.int .i64 z0, .int .i64 0, .slice none 0 0, .slice none 0 0, .slice none 0 0] #[.int .i64 0, .int .i64 0, .slice none 0 0, .slice none 0 0, .slice none 0 0] := g0.put 0 (.int .i64 z0) (by show 0 < 5; omega)
  clear g0 c0 fb hlb
  generalize y0.setCell ⟨w.heap.size + 1, 0, none⟩ (.int .i64 z0) = X0 at *
  have ki1 := h1.r.rint
  have HI1 : Hid (inI (int9 S1).1) := int9_in _
  go_wp2_with fail
  refine ki1.mono ?_
  rintro _ y1 ⟨rfl, hl1⟩
  have g1 := h1.left hl1
  clear h1 ki1 hl1
  generalize hA : int9 S1 = A at *
  obtain ⟨z1, S2⟩ := A
  have E1 : Hid (int9 S1 = (z1, S2)) := hA
  clear hA
  dsimp only at g1 HI1
  have c1 := box_cell g1.box 1
  have fb := frozen9 g1.box
  have hlb := box_lt g1.box
  go_upto_region 4 with fail
  have h2 : RdX w0 w _ rb S2 43 #[.int .i64 z0, .int .i64 z1, .slice none 0 0, .slice none 0 0, .slice none 0 0] #[.int .i64 0, .int .i64 0, .slice none 0 0, .slice none 0 0, .slice none 0 0] := g1.put 1 (.int .i64 z1) (by show 1 < 5; omega)
  clear g1 c1 fb hlb
  generalize y1.setCell ⟨w.heap.size + 1, 1, none⟩ (.int .i64 z1) = X1 at *
  have kc := rconfR_any w0 X1 rb S2 h2.r
  have hb3 := box_lt h2.box
  go_wp2_with fail
  refine kc.mono ?_
  rintro _ y4 ⟨X, S3, rfl, hO4, hT4, hl4⟩
  have h4 := h2.left hl4
  have HT : Hid (Tell10 R ⟨z0, z1, X.f, (byt10 S3).1⟩ (byt10 S3).2) := by
    rw [Hid, ← HR.out]
    exact snap10_tell E0.out E1.out hT4
  clear kc h2 hl4 hT4 HR E0 E1
  obtain ⟨⟨p, n, c⟩, ⟨q, m, d⟩, f⟩ := X
  unfold ConfV.arr
  dsimp only at HT ⊢
  have c2 := box_cell h4.box 2
  have c3 := box_cell h4.box 3
  have fb := frozen9 h4.box
  have hlb := box_lt h4.box
  go_upto_region 5 with fail
  have h5 : RdX w0 w _ rb S3 43 #[.int .i64 z0, .int .i64 z1, .slice p n c, .slice q m d, .slice none 0 0] #[.int .i64 0, .int .i64 0, .slice none 0 0, .slice none 0 0, .slice none 0 0] := (h4.put 2 (.slice p n c) (by show 2 < 5; omega)).put 3 (.slice q m d) (by show 3 < 5; omega)
  have hO5 := ((hO4.cell (b := w.heap.size + 1) (by omega) 2 (.slice p n c)).cell (b := w.heap.size + 1) (by omega) 3 (.slice q m d)).mono (B' := w.heap.size + 1 + 1) (by omega)
  clear h4 hO4 c2 c3 fb hlb
  generalize (y4.setCell ⟨w.heap.size + 1, 2, none⟩ (.slice p n c)).setCell ⟨w.heap.size + 1, 3, none⟩ (.slice q m d) = X5 at *
  have kt := h5.r.rtext
  have HB : Hid (IsB (byt10 S3).1) := byt10_isB h5.r.isb
  have HLen : Hid ((byt10 S3).1.length ≤ 1073741824) := Nat.le_trans (byt10_len S3) h5.r.len
  have HTx : Hid (strB (strOfNums (byt10 S3).1) = (byt10 S3).1) := strB_of HB.out
  generalize byt10 S3 = A at *
  obtain ⟨xs, S4⟩ := A
  dsimp only at kt HT HB HLen HTx
  generalize strOfNums xs = sx at *
  have hlb5 := box_lt h5.box
  go_wp2_with fail
  refine kt.mono ?_
  rintro _ w6 ⟨rfl, hl6⟩
  have h6 := h5.left hl6
  have hO6 := hO5.kept hl6.2 (by omega)
  have hcv := Lib.run_convert_string_bytes (P := Tryz.prog) w6 9 22 5 sx (u := .string) Tryz.underlying9 Tryz.underlying22 Tryz.underlying5
  obtain ⟨hH, hb7⟩ := bytes_has w6 sx
  rw [HTx.out] at hH
  have h7 := h6.more hb7
  have hO7 := hO6.below hb7
  have hlb6 := box_lt h6.box
  clear kt h5 hO5 hl6 h6 hO6 hb7 HTx hlb5
  generalize Lib.bytesWorld w6 5 sx = W7 at *
  generalize grownCap w6 sx.size 0 5 = e0 at *
  generalize sx.size = b0 at *
  generalize hbb : w6.heap.size = bb at *
  have hbb2 : w.heap.size + 1 < bb := by omega
  clear hbb
  have c4 := box_cell h7.box 4
  have fb := frozen9 h7.box
  have hlb := box_lt h7.box
  go_upto_region 6 with fail
  have hx : RdX w0 w _ rb S4 43 #[.int .i64 z0, .int .i64 z1, .slice p n c, .slice q m d, .slice (some ⟨bb, 0, none⟩) b0 e0] #[.int .i64 0, .int .i64 0, .slice none 0 0, .slice none 0 0, .slice none 0 0] := h7.put 4 (.slice (some ⟨bb, 0, none⟩) b0 e0) (by show 4 < 5; omega)
  have hS7 : LiesS W7 (w.heap.size + 1 + 1) ⟨z0, z1, ⟨⟨p, n, c⟩, ⟨q, m, d⟩, f⟩, ⟨some ⟨bb, 0, none⟩, b0, e0⟩, xs⟩ := ⟨HI0.out, HI1.out, hO7, hH, (fun k hk => by have := Option.some.inj hk; dsimp only at this; omega), HB.out, HLen.out⟩
  have hS9 := hS7.cell (b := w.heap.size + 1) (by omega) 4 (.slice (some ⟨bb, 0, none⟩) b0 e0)
  clear h7 hO7 hH c4 fb hlb hS7 hcv
  generalize ha : some (⟨bb, 0, none⟩ : Addr) = a at *
  clear ha
  generalize W7.setCell ⟨w.heap.size + 1, 4, none⟩ (.slice a b0 e0) = X9 at *
  have c0 := box_cell hx.box 0
  have d0 := box_cell hx.res 0
  have c1 := box_cell hx.box 1
  have d1 := box_cell hx.res 1
  have c2 := box_cell hx.box 2
  have d2 := box_cell hx.res 2
  have c3 := box_cell hx.box 3
  have d3 := box_cell hx.res 3
  have c4 := box_cell hx.box 4
  have d4 := box_cell hx.res 4
  have fb := frozen9 hx.res
  have hlb := box_lt hx.box
  have hlr := box_lt hx.res
  go_wp2
  have hF := fillS (b := w.heap.size) (x0 := noSV) hx.res z0 z1 p n c q m d a b0 e0 f xs
  have hR9 := ((((((((((hx.r).cell (b := w.heap.size) (by omega) (by omega) 0 (.int .i64 z0))).cell (b := w.heap.size) (by omega) (by omega) 1 (.int .i64 z1))).cell (b := w.heap.size) (by omega) (by omega) 2 (.slice p n c))).cell (b := w.heap.size) (by omega) (by omega) 3 (.slice q m d))).cell (b := w.heap.size) (by omega) (by omega) 4 (.slice a b0 e0))
  have hG9 := (grown_new (b := w.heap.size) (grown_new (b := w.heap.size) (grown_new (b := w.heap.size) (grown_new (b := w.heap.size) (grown_new (b := w.heap.size) hx.g (by omega) 0 (.int .i64 z0)) (by omega) 1 (.int .i64 z1)) (by omega) 2 (.slice p n c)) (by omega) 3 (.slice q m d)) (by omega) 4 (.slice a b0 e0))
  have hO9 := ((((((((((hS9).cell (b := w.heap.size) (by omega) 0 (.int .i64 z0))).cell (b := w.heap.size) (by omega) 1 (.int .i64 z1))).cell (b := w.heap.size) (by omega) 2 (.slice p n c))).cell (b := w.heap.size) (by omega) 3 (.slice q m d))).cell (b := w.heap.size) (by omega) 4 (.slice a b0 e0))
  exact bodyPost_ret (ret_one rfl _ _ w.heap.size _ _ _ _ rfl hF Tryz.underlying43 rfl (by kernel_rfl)) rfl ⟨⟨z0, z1, ⟨⟨p, n, c⟩, ⟨q, m, d⟩, f⟩, ⟨a, b0, e0⟩, xs⟩, S4, rfl, hO9.mono (by omega), HT.out, hR9, hG9⟩
end Go.Proofs.YtnbaoimjcaeeaaaGreat

/-
  Contracts: corbelref10.Read, ReadSnap.
-/
namespace Go.Proofs.YtnbaoimjcaeeaaaGreat
open Go.RowKit Go.Shelf

set_option maxRecDepth 100000 in
set_option maxHeartbeats 4000000 in
theorem rreadE_any (v : Value) (xs : List Int) (w : World) (hv : Has w v xs) (hB : IsB xs) (hl : xs.length ≤ 1073741824) :
    Calls Tryz.prog 7 #[v] w fun e w' => ∃ X : EntV, e = .returned (.tuple #[.agg X.arr, .int .i64 (whole10 goodE10 noE10 (pent10 (xs, false))).2]) ∧ X.e = (whole10 goodE10 noE10 (pent10 (xs, false))).1 ∧ FitsE w' X ∧ Below w.heap.size w w' := by
  have hb1 : Below w.heap.size w (w.alloc (.cells #[.int .i64 0, .int .i64 0, .int .i64 0, .int .i64 0, .int .i64 0, .int .i64 0, .string em9, .string em9, .string em9, .string em9, .int .i64 0, .slice none 0 0, .slice none 0 0] 30)) := (Below.refl _ _).alloc (Nat.le_refl _) _
  have hbox : EntAt (w.alloc (.cells #[.int .i64 0, .int .i64 0, .int .i64 0, .int .i64 0, .int .i64 0, .int .i64 0, .string em9, .string em9, .string em9, .string em9, .int .i64 0, .slice none 0 0, .slice none 0 0] 30)) w.heap.size noEV := heap_alloc_new w _
  have hz1 : (w.alloc (.cells #[.int .i64 0, .int .i64 0, .int .i64 0, .int .i64 0, .int .i64 0, .int .i64 0, .string em9, .string em9, .string em9, .string em9, .int .i64 0, .slice none 0 0, .slice none 0 0] 30)).heap.size = w.heap.size + 1 := by simp
  have hR := Rdr.make hb1 hv hB hl 72
  have hsl : ∃ p n c, v = .slice p n c := by
    obtain ⟨p, c, hp, -⟩ := hv
    exact ⟨p, _, c, hp⟩
  have hb2 : Below (w.alloc (.cells #[.int .i64 0, .int .i64 0, .int .i64 0, .int .i64 0, .int .i64 0, .int .i64 0, .string em9, .string em9, .string em9, .string em9, .int .i64 0, .slice none 0 0, .slice none 0 0] 30)).heap.size (w.alloc (.cells #[.int .i64 0, .int .i64 0, .int .i64 0, .int .i64 0, .int .i64 0, .int .i64 0, .string em9, .string em9, .string em9, .string em9, .int .i64 0, .slice none 0 0, .slice none 0 0] 30)) ((w.alloc (.cells #[.int .i64 0, .int .i64 0, .int .i64 0, .int .i64 0, .int .i64 0, .int .i64 0, .string em9, .string em9, .string em9, .string em9, .int .i64 0, .slice none 0 0, .slice none 0 0] 30)).alloc (.cells #[v, .bool false] 72)) := (Below.refl _ _).alloc (Nat.le_refl _) _
  have hbox2 : EntAt _ w.heap.size noEV := box_below hbox hb2
  have hz2 : ((w.alloc (.cells #[.int .i64 0, .int .i64 0, .int .i64 0, .int .i64 0, .int .i64 0, .int .i64 0, .string em9, .string em9, .string em9, .string em9, .int .i64 0, .slice none 0 0, .slice none 0 0] 30)).alloc (.cells #[v, .bool false] 72)).heap.size = w.heap.size + 2 := by simp
  have k1 := rentryR_any w _ _ (xs, false) hR
  have HW1 : Hid (∀ x S', Tell10 (ent10 1000000 (xs, false)) x S' → whole10 goodE10 noE10 (pent10 (xs, false)) = if (S'.1.isEmpty && !S'.2) && goodE10 x then (x, 0) else (noE10, 8)) := fun x S' ht => by
    rw [(ent10_sim 1000000 (by decide)).whole noE10 (xs, false), ← ht.whole]
    rfl
  generalize whole10 goodE10 noE10 (pent10 (xs, false)) = R at *
  obtain ⟨p0, n0, c0_, rfl⟩ := hsl
  rw [hz1] at k1 hR
  clear hR hv hB hbox hb2 hb1 hz1
  go_enter Tryz.func7, Tryz.ntmps7
  go_wp2_with fail
  generalize (w.alloc (.cells #[.int .i64 0, .int .i64 0, .int .i64 0, .int .i64 0, .int .i64 0, .int .i64 0, .string em9, .string em9, .string em9, .string em9, .int .i64 0, .slice none 0 0, .slice none 0 0] 30)).alloc (.cells #[.slice p0 n0 c0_, .bool false] 72) = W2 at *
  refine k1.mono ?_
  rintro _ w3 ⟨X, S1, rfl, hM, hT, hR3, hg3⟩
  have hbox3 : EntAt w3 w.heap.size noEV := grown_box hg3 hbox2 (by omega)
  have hsz3 := hg3.size
  have HW0 : Hid (R = if (S1.1.isEmpty && !S1.2) && goodE10 X.e then (X.e, 0) else (noE10, 8)) := HW1.out _ _ hT
  have hb4 : Below w3.heap.size w3 (w3.alloc (.cells X.arr 30)) := (Below.refl _ _).alloc (Nat.le_refl _) _
  have hbn : EntAt (w3.alloc (.cells X.arr 30)) w3.heap.size X := heap_alloc_new w3 _
  have hbox4 := box_below hbox3 hb4
  have hR4 := hR3.more hb4
  have hM4 := hM.below hb4
  have kg := rgoodE_any X _ hM4.fits
  have kf := hR4.rfin
  have HX : Hid (X.e = X.e) := rfl
  clear k1 hbox2 hbox3 hM hT hR3 hg3 hb4 HW1
  generalize hgx : goodE10 X.e = gx at *
  clear hgx
  generalize hx0 : X.e = x0 at *
  replace HX : Hid (X.e = x0) := hx0
  clear hx0
  obtain ⟨i, t, k, ⟨ck, cs, cq, ckey, cold, cval, cunt, clim⟩, ⟨⟨p, n, c⟩, ⟨q, m, d⟩, f⟩⟩ := X
  unfold EntV.arr at *
  dsimp only at *
  go_wp2_with fail
  generalize w3.alloc (.cells #[.int .i64 i, .int .i64 t, .int .i64 k, .int .i64 ck, .int .i64 cs, .int .i64 cq, .string ckey, .string cold, .string cval, .string cunt, .int .i64 clim, .slice p n c, .slice q m d] 30) = W4 at *
  replace hbox4 : EntAt W4 w.heap.size noEV := hbox4
  replace hbn : EntAt W4 w3.heap.size ⟨i, t, k, ⟨ck, cs, cq, ckey, cold, cval, cunt, clim⟩, ⟨⟨p, n, c⟩, ⟨q, m, d⟩, f⟩⟩ := hbn
  generalize hbx : w3.heap.size = bx at *
  clear hbx
  generalize hfi : (S1.1.isEmpty && !S1.2) = fi at *
  clear hfi
  cases fi with
  | false =>
    have HW : Hid (R = (noE10, 8)) := by rw [Hid, HW0.out]; rfl
    clear HW0
    refine same_mono kf ?_
    have d0 := box_cell hbox4 0
    have d1 := box_cell hbox4 1
    have d2 := box_cell hbox4 2
    have d3 := box_cell hbox4 3
    have d4 := box_cell hbox4 4
    have d5 := box_cell hbox4 5
    have d6 := box_cell hbox4 6
    have d7 := box_cell hbox4 7
    have d8 := box_cell hbox4 8
    have d9 := box_cell hbox4 9
    have d10 := box_cell hbox4 10
    have d11 := box_cell hbox4 11
    have d12 := box_cell hbox4 12
    have fb := frozen9 hbox4
    have hlr := box_lt hbox4
    dsimp only [EntV.arr, noEV, zeroC9, noFV, nilS10] at d0 d1 d2 d3 d4 d5 d6 d7 d8 d9 d10 d11 d12
    go_wp2
    have hF := fillE (b := w.heap.size) (x0 := noEV) hbox4 0 0 0 0 0 0 em9 em9 em9 em9 0 none 0 0 none 0 0 noF10
    have hB9 : Below w.heap.size w _ := (((((((((((((hR4.bel.setCell (p := ⟨w.heap.size, 0, none⟩) (Nat.le_refl _) (.int .i64 0)).setCell (p := ⟨w.heap.size, 1, none⟩) (Nat.le_refl _) (.int .i64 0)).setCell (p := ⟨w.heap.size, 2, none⟩) (Nat.le_refl _) (.int .i64 0)).setCell (p := ⟨w.heap.size, 3, none⟩) (Nat.le_refl _) (.int .i64 0)).setCell (p := ⟨w.heap.size, 4, none⟩) (Nat.le_refl _) (.int .i64 0)).setCell (p := ⟨w.heap.size, 5, none⟩) (Nat.le_refl _) (.int .i64 0)).setCell (p := ⟨w.heap.size, 6, none⟩) (Nat.le_refl _) (.string em9)).setCell (p := ⟨w.heap.size, 7, none⟩) (Nat.le_refl _) (.string em9)).setCell (p := ⟨w.heap.size, 8, none⟩) (Nat.le_refl _) (.string em9)).setCell (p := ⟨w.heap.size, 9, none⟩) (Nat.le_refl _) (.string em9)).setCell (p := ⟨w.heap.size, 10, none⟩) (Nat.le_refl _) (.int .i64 0)).setCell (p := ⟨w.heap.size, 11, none⟩) (Nat.le_refl _) (.slice none 0 0)).setCell (p := ⟨w.heap.size, 12, none⟩) (Nat.le_refl _) (.slice none 0 0))
    refine bodyPost_ret (ret_cell9 rfl _ _ w.heap.size _ _ _ _ rfl hF Tryz.underlying30 rfl (by kernel_rfl)) rfl ⟨noEV, ?_, ?_, (OwnsE.nil _ w.heap.size).fits, hB9⟩
    · rw [HW.out]; rfl
    · rw [HW.out]; rfl
  | true =>
    refine same_mono kf ?_
    clear kf
    have c0 := box_cell hbn 0
    have c1 := box_cell hbn 1
    have c2 := box_cell hbn 2
    have c3 := box_cell hbn 3
    have c4 := box_cell hbn 4
    have c5 := box_cell hbn 5
    have c6 := box_cell hbn 6
    have c7 := box_cell hbn 7
    have c8 := box_cell hbn 8
    have c9 := box_cell hbn 9
    have c10 := box_cell hbn 10
    have c11 := box_cell hbn 11
    have c12 := box_cell hbn 12
    have hlx := box_lt hbn
    dsimp only [EntV.arr] at c0 c1 c2 c3 c4 c5 c6 c7 c8 c9 c10 c11 c12
    go_wp2_with fail
    refine kg.mono ?_
    rintro _ w5 ⟨rfl, hb5⟩
    have hbn5 : EntAt w5 bx ⟨i, t, k, ⟨ck, cs, cq, ckey, cold, cval, cunt, clim⟩, ⟨⟨p, n, c⟩, ⟨q, m, d⟩, f⟩⟩ := box_below hbn hb5
    have hbox5 : EntAt w5 w.heap.size noEV := box_below hbox4 hb5
    have hR5 := hR4.more hb5
    have hM5 := hM4.below hb5
    clear kg hbn hbox4 hR4 hM4 hb5 c0 c1 c2 c3 c4 c5 c6 c7 c8 c9 c10 c11 c12 hlx
    cases gx with
    | false =>
      have HW : Hid (R = (noE10, 8)) := by rw [Hid, HW0.out]; rfl
      clear HW0
      have d0 := box_cell hbox5 0
      have d1 := box_cell hbox5 1
      have d2 := box_cell hbox5 2
      have d3 := box_cell hbox5 3
      have d4 := box_cell hbox5 4
      have d5 := box_cell hbox5 5
      have d6 := box_cell hbox5 6
      have d7 := box_cell hbox5 7
      have d8 := box_cell hbox5 8
      have d9 := box_cell hbox5 9
      have d10 := box_cell hbox5 10
      have d11 := box_cell hbox5 11
      have d12 := box_cell hbox5 12
      have fb := frozen9 hbox5
      have hlr := box_lt hbox5
      dsimp only [EntV.arr, noEV, zeroC9, noFV, nilS10] at d0 d1 d2 d3 d4 d5 d6 d7 d8 d9 d10 d11 d12
      go_wp2
      have hF := fillE (b := w.heap.size) (x0 := noEV) hbox5 0 0 0 0 0 0 em9 em9 em9 em9 0 none 0 0 none 0 0 noF10
      have hB9 : Below w.heap.size w _ := (((((((((((((hR5.bel.setCell (p := ⟨w.heap.size, 0, none⟩) (Nat.le_refl _) (.int .i64 0)).setCell (p := ⟨w.heap.size, 1, none⟩) (Nat.le_refl _) (.int .i64 0)).setCell (p := ⟨w.heap.size, 2, none⟩) (Nat.le_refl _) (.int .i64 0)).setCell (p := ⟨w.heap.size, 3, none⟩) (Nat.le_refl _) (.int .i64 0)).setCell (p := ⟨w.heap.size, 4, none⟩) (Nat.le_refl _) (.int .i64 0)).setCell (p := ⟨w.heap.size, 5, none⟩) (Nat.le_refl _) (.int .i64 0)).setCell (p := ⟨w.heap.size, 6, none⟩) (Nat.le_refl _) (.string em9)).setCell (p := ⟨w.heap.size, 7, none⟩) (Nat.le_refl _) (.string em9)).setCell (p := ⟨w.heap.size, 8, none⟩) (Nat.le_refl _) (.string em9)).setCell (p := ⟨w.heap.size, 9, none⟩) (Nat.le_refl _) (.string em9)).setCell (p := ⟨w.heap.size, 10, none⟩) (Nat.le_refl _) (.int .i64 0)).setCell (p := ⟨w.heap.size, 11, none⟩) (Nat.le_refl _) (.slice none 0 0)).setCell (p := ⟨w.heap.size, 12, none⟩) (Nat.le_refl _) (.slice none 0 0))
      refine bodyPost_ret (ret_cell9 rfl _ _ w.heap.size _ _ _ _ rfl hF Tryz.underlying30 rfl (by kernel_rfl)) rfl ⟨noEV, ?_, ?_, (OwnsE.nil _ w.heap.size).fits, hB9⟩
      · rw [HW.out]; rfl
      · rw [HW.out]; rfl
    | true =>
      have HW : Hid (R = (x0, 0)) := by rw [Hid, HW0.out]; rfl
      clear HW0
      have c0 := box_cell hbn5 0
      have d0 := box_cell hbox5 0
      have c1 := box_cell hbn5 1
      have d1 := box_cell hbox5 1
      have c2 := box_cell hbn5 2
      have d2 := box_cell hbox5 2
      have c3 := box_cell hbn5 3
      have d3 := box_cell hbox5 3
      have c4 := box_cell hbn5 4
      have d4 := box_cell hbox5 4
      have c5 := box_cell hbn5 5
      have d5 := box_cell hbox5 5
      have c6 := box_cell hbn5 6
      have d6 := box_cell hbox5 6
      have c7 := box_cell hbn5 7
      have d7 := box_cell hbox5 7
      have c8 := box_cell hbn5 8
      have d8 := box_cell hbox5 8
      have c9 := box_cell hbn5 9
      have d9 := box_cell hbox5 9
      have c10 := box_cell hbn5 10
      have d10 := box_cell hbox5 10
      have c11 := box_cell hbn5 11
      have d11 := box_cell hbox5 11
      have c12 := box_cell hbn5 12
      have d12 := box_cell hbox5 12
      dsimp only [EntV.arr, noEV, zeroC9, noFV, nilS10] at c0 d0 c1 d1 c2 d2 c3 d3 c4 d4 c5 d5 c6 d6 c7 d7 c8 d8 c9 d9 c10 d10 c11 d11 c12 d12
      have hlx := box_lt hbn5
      have hlr := box_lt hbox5
      have fb := frozen9 hbox5
      go_wp2
      have hF := fillE (b := w.heap.size) (x0 := noEV) hbox5 i t k ck cs cq ckey cold cval cunt clim p n c q m d f
      have hO9 := ((((((((((((((((((((((((((hM5).cell (b := w.heap.size) (by omega) 0 (.int .i64 i))).cell (b := w.heap.size) (by omega) 1 (.int .i64 t))).cell (b := w.heap.size) (by omega) 2 (.int .i64 k))).cell (b := w.heap.size) (by omega) 3 (.int .i64 ck))).cell (b := w.heap.size) (by omega) 4 (.int .i64 cs))).cell (b := w.heap.size) (by omega) 5 (.int .i64 cq))).cell (b := w.heap.size) (by omega) 6 (.string ckey))).cell (b := w.heap.size) (by omega) 7 (.string cold))).cell (b := w.heap.size) (by omega) 8 (.string cval))).cell (b := w.heap.size) (by omega) 9 (.string cunt))).cell (b := w.heap.size) (by omega) 10 (.int .i64 clim))).cell (b := w.heap.size) (by omega) 11 (.slice p n c))).cell (b := w.heap.size) (by omega) 12 (.slice q m d))
      have hB9 : Below w.heap.size w _ := (((((((((((((hR5.bel.setCell (p := ⟨w.heap.size, 0, none⟩) (Nat.le_refl _) (.int .i64 i)).setCell (p := ⟨w.heap.size, 1, none⟩) (Nat.le_refl _) (.int .i64 t)).setCell (p := ⟨w.heap.size, 2, none⟩) (Nat.le_refl _) (.int .i64 k)).setCell (p := ⟨w.heap.size, 3, none⟩) (Nat.le_refl _) (.int .i64 ck)).setCell (p := ⟨w.heap.size, 4, none⟩) (Nat.le_refl _) (.int .i64 cs)).setCell (p := ⟨w.heap.size, 5, none⟩) (Nat.le_refl _) (.int .i64 cq)).setCell (p := ⟨w.heap.size, 6, none⟩) (Nat.le_refl _) (.string ckey)).setCell (p := ⟨w.heap.size, 7, none⟩) (Nat.le_refl _) (.string cold)).setCell (p := ⟨w.heap.size, 8, none⟩) (Nat.le_refl _) (.string cval)).setCell (p := ⟨w.heap.size, 9, none⟩) (Nat.le_refl _) (.string cunt)).setCell (p := ⟨w.heap.size, 10, none⟩) (Nat.le_refl _) (.int .i64 clim)).setCell (p := ⟨w.heap.size, 11, none⟩) (Nat.le_refl _) (.slice p n c)).setCell (p := ⟨w.heap.size, 12, none⟩) (Nat.le_refl _) (.slice q m d))
      refine bodyPost_ret (ret_cell9 rfl _ _ w.heap.size _ _ _ _ rfl hF Tryz.underlying30 rfl (by kernel_rfl)) rfl ⟨⟨i, t, k, ⟨ck, cs, cq, ckey, cold, cval, cunt, clim⟩, ⟨⟨p, n, c⟩, ⟨q, m, d⟩, f⟩⟩, ?_, ?_, hO9.fits, hB9⟩
      · rw [HW.out]; rfl
      · rw [HW.out]; exact HX.out

set_option maxRecDepth 100000 in
set_option maxHeartbeats 4000000 in
theorem rreadS_any (v : Value) (xs : List Int) (w : World) (hv : Has w v xs) (hB : IsB xs) (hl : xs.length ≤ 1073741824) :
    Calls Tryz.prog 11 #[v] w fun e w' => ∃ X : SnapV, e = .returned (.tuple #[.agg X.arr, .int .i64 (whole10 goodS10 noS10 (snap10 9 (xs, false))).2]) ∧ X.s = (whole10 goodS10 noS10 (snap10 9 (xs, false))).1 ∧ FitsS w' X ∧ Below w.heap.size w w' := by
  have hb1 : Below w.heap.size w (w.alloc (.cells #[.int .i64 0, .int .i64 0, .slice none 0 0, .slice none 0 0, .slice none 0 0] 43)) := (Below.refl _ _).alloc (Nat.le_refl _) _
  have hbox : SnapAt (w.alloc (.cells #[.int .i64 0, .int .i64 0, .slice none 0 0, .slice none 0 0, .slice none 0 0] 43)) w.heap.size noSV := heap_alloc_new w _
  have hz1 : (w.alloc (.cells #[.int .i64 0, .int .i64 0, .slice none 0 0, .slice none 0 0, .slice none 0 0] 43)).heap.size = w.heap.size + 1 := by simp
  have hR := Rdr.make hb1 hv hB hl 72
  have hsl : ∃ p n c, v = .slice p n c := by
    obtain ⟨p, c, hp, -⟩ := hv
    exact ⟨p, _, c, hp⟩
  have hb2 : Below (w.alloc (.cells #[.int .i64 0, .int .i64 0, .slice none 0 0, .slice none 0 0, .slice none 0 0] 43)).heap.size (w.alloc (.cells #[.int .i64 0, .int .i64 0, .slice none 0 0, .slice none 0 0, .slice none 0 0] 43)) ((w.alloc (.cells #[.int .i64 0, .int .i64 0, .slice none 0 0, .slice none 0 0, .slice none 0 0] 43)).alloc (.cells #[v, .bool false] 72)) := (Below.refl _ _).alloc (Nat.le_refl _) _
  have hbox2 : SnapAt _ w.heap.size noSV := box_below hbox hb2
  have hz2 : ((w.alloc (.cells #[.int .i64 0, .int .i64 0, .slice none 0 0, .slice none 0 0, .slice none 0 0] 43)).alloc (.cells #[v, .bool false] 72)).heap.size = w.heap.size + 2 := by simp
  have k1 := rsnapR_any w _ _ (xs, false) hR
  have HW1 : Hid (∀ x S', Tell10 (snap10 1000000 (xs, false)) x S' → whole10 goodS10 noS10 (snap10 9 (xs, false)) = if (S'.1.isEmpty && !S'.2) && goodS10 x then (x, 0) else (noS10, 8)) := fun x S' ht => by
    rw [(snap10_sim 1000000 (by decide)).whole noS10 (xs, false), ← ht.whole]
    rfl
  generalize whole10 goodS10 noS10 (snap10 9 (xs, false)) = R at *
  obtain ⟨p0, n0, c0_, rfl⟩ := hsl
  rw [hz1] at k1 hR
  clear hR hv hB hbox hb2 hb1 hz1
  go_enter Tryz.func11, Tryz.ntmps11
  go_wp2_with fail
  generalize (w.alloc (.cells #[.int .i64 0, .int .i64 0, .slice none 0 0, .slice none 0 0, .slice none 0 0] 43)).alloc (.cells #[.slice p0 n0 c0_, .bool false] 72) = W2 at *
  refine k1.mono ?_
  rintro _ w3 ⟨X, S1, rfl, hM, hT, hR3, hg3⟩
  have hbox3 : SnapAt w3 w.heap.size noSV := grown_box hg3 hbox2 (by omega)
  have hsz3 := hg3.size
  have HW0 : Hid (R = if (S1.1.isEmpty && !S1.2) && goodS10 X.s then (X.s, 0) else (noS10, 8)) := HW1.out _ _ hT
  have hb4 : Below w3.heap.size w3 (w3.alloc (.cells X.arr 43)) := (Below.refl _ _).alloc (Nat.le_refl _) _
  have hbn : SnapAt (w3.alloc (.cells X.arr 43)) w3.heap.size X := heap_alloc_new w3 _
  have hbox4 := box_below hbox3 hb4
  have hR4 := hR3.more hb4
  have hM4 := hM.below hb4
  have kg := rgoodSnap_any X _ hM4.fits
  have kf := hR4.rfin
  have HX : Hid (X.s = X.s) := rfl
  clear k1 hbox2 hbox3 hM hT hR3 hg3 hb4 HW1
  generalize hgx : goodS10 X.s = gx at *
  clear hgx
  generalize hx0 : X.s = x0 at *
  replace HX : Hid (X.s = x0) := hx0
  clear hx0
  obtain ⟨si, st, ⟨⟨p, n, c⟩, ⟨q, m, d⟩, f⟩, ⟨a, b0, e0⟩, dd⟩ := X
  unfold SnapV.arr at *
  dsimp only at *
  go_wp2_with fail
  generalize w3.alloc (.cells #[.int .i64 si, .int .i64 st, .slice p n c, .slice q m d, .slice a b0 e0] 43) = W4 at *
  replace hbox4 : SnapAt W4 w.heap.size noSV := hbox4
  replace hbn : SnapAt W4 w3.heap.size ⟨si, st, ⟨⟨p, n, c⟩, ⟨q, m, d⟩, f⟩, ⟨a, b0, e0⟩, dd⟩ := hbn
  generalize hbx : w3.heap.size = bx at *
  clear hbx
  generalize hfi : (S1.1.isEmpty && !S1.2) = fi at *
  clear hfi
  cases fi with
  | false =>
    have HW : Hid (R = (noS10, 8)) := by rw [Hid, HW0.out]; rfl
    clear HW0
    refine same_mono kf ?_
    have d0 := box_cell hbox4 0
    have d1 := box_cell hbox4 1
    have d2 := box_cell hbox4 2
    have d3 := box_cell hbox4 3
    have d4 := box_cell hbox4 4
    have fb := frozen9 hbox4
    have hlr := box_lt hbox4
    dsimp only [SnapV.arr, noSV, noFV, nilS10] at d0 d1 d2 d3 d4
    go_wp2
    have hF := fillS (b := w.heap.size) (x0 := noSV) hbox4 0 0 none 0 0 none 0 0 none 0 0 noF10 []
    have hB9 : Below w.heap.size w _ := (((((hR4.bel.setCell (p := ⟨w.heap.size, 0, none⟩) (Nat.le_refl _) (.int .i64 0)).setCell (p := ⟨w.heap.size, 1, none⟩) (Nat.le_refl _) (.int .i64 0)).setCell (p := ⟨w.heap.size, 2, none⟩) (Nat.le_refl _) (.slice none 0 0)).setCell (p := ⟨w.heap.size, 3, none⟩) (Nat.le_refl _) (.slice none 0 0)).setCell (p := ⟨w.heap.size, 4, none⟩) (Nat.le_refl _) (.slice none 0 0))
    refine bodyPost_ret (ret_cell9 rfl _ _ w.heap.size _ _ _ _ rfl hF Tryz.underlying43 rfl (by kernel_rfl)) rfl ⟨noSV, ?_, ?_, (LiesS.nil _ w.heap.size).fits, hB9⟩
    · rw [HW.out]; rfl
    · rw [HW.out]; rfl
  | true =>
    refine same_mono kf ?_
    clear kf
    have c0 := box_cell hbn 0
    have c1 := box_cell hbn 1
    have c2 := box_cell hbn 2
    have c3 := box_cell hbn 3
    have c4 := box_cell hbn 4
    have hlx := box_lt hbn
    dsimp only [SnapV.arr] at c0 c1 c2 c3 c4
    go_wp2_with fail
    refine kg.mono ?_
    rintro _ w5 ⟨rfl, hb5⟩
    have hbn5 : SnapAt w5 bx ⟨si, st, ⟨⟨p, n, c⟩, ⟨q, m, d⟩, f⟩, ⟨a, b0, e0⟩, dd⟩ := box_below hbn hb5
    have hbox5 : SnapAt w5 w.heap.size noSV := box_below hbox4 hb5
    have hR5 := hR4.more hb5
    have hM5 := hM4.below hb5
    clear kg hbn hbox4 hR4 hM4 hb5 c0 c1 c2 c3 c4 hlx
    cases gx with
    | false =>
      have HW : Hid (R = (noS10, 8)) := by rw [Hid, HW0.out]; rfl
      clear HW0
      have d0 := box_cell hbox5 0
      have d1 := box_cell hbox5 1
      have d2 := box_cell hbox5 2
      have d3 := box_cell hbox5 3
      have d4 := box_cell hbox5 4
      have fb := frozen9 hbox5
      have hlr := box_lt hbox5
      dsimp only [SnapV.arr, noSV, noFV, nilS10] at d0 d1 d2 d3 d4
      go_wp2
      have hF := fillS (b := w.heap.size) (x0 := noSV) hbox5 0 0 none 0 0 none 0 0 none 0 0 noF10 []
      have hB9 : Below w.heap.size w _ := (((((hR5.bel.setCell (p := ⟨w.heap.size, 0, none⟩) (Nat.le_refl _) (.int .i64 0)).setCell (p := ⟨w.heap.size, 1, none⟩) (Nat.le_refl _) (.int .i64 0)).setCell (p := ⟨w.heap.size, 2, none⟩) (Nat.le_refl _) (.slice none 0 0)).setCell (p := ⟨w.heap.size, 3, none⟩) (Nat.le_refl _) (.slice none 0 0)).setCell (p := ⟨w.heap.size, 4, none⟩) (Nat.le_refl _) (.slice none 0 0))
      refine bodyPost_ret (ret_cell9 rfl _ _ w.heap.size _ _ _ _ rfl hF Tryz.underlying43 rfl (by kernel_rfl)) rfl ⟨noSV, ?_, ?_, (LiesS.nil _ w.heap.size).fits, hB9⟩
      · rw [HW.out]; rfl
      · rw [HW.out]; rfl
    | true =>
      have HW : Hid (R = (x0, 0)) := by rw [Hid, HW0.out]; rfl
      clear HW0
      have c0 := box_cell hbn5 0
      have d0 := box_cell hbox5 0
      have c1 := box_cell hbn5 1
      have d1 := box_cell hbox5 1
      have c2 := box_cell hbn5 2
      have d2 := box_cell hbox5 2
      have c3 := box_cell hbn5 3
      have d3 := box_cell hbox5 3
      have c4 := box_cell hbn5 4
      have d4 := box_cell hbox5 4
      dsimp only [SnapV.arr, noSV, noFV, nilS10] at c0 d0 c1 d1 c2 d2 c3 d3 c4 d4
      have hlx := box_lt hbn5
      have hlr := box_lt hbox5
      have fb := frozen9 hbox5
      go_wp2
      have hF := fillS (b := w.heap.size) (x0 := noSV) hbox5 si st p n c q m d a b0 e0 f dd
      have hO9 := ((((((((((hM5).cell (b := w.heap.size) (by omega) 0 (.int .i64 si))).cell (b := w.heap.size) (by omega) 1 (.int .i64 st))).cell (b := w.heap.size) (by omega) 2 (.slice p n c))).cell (b := w.heap.size) (by omega) 3 (.slice q m d))).cell (b := w.heap.size) (by omega) 4 (.slice a b0 e0))
      have hB9 : Below w.heap.size w _ := (((((hR5.bel.setCell (p := ⟨w.heap.size, 0, none⟩) (Nat.le_refl _) (.int .i64 si)).setCell (p := ⟨w.heap.size, 1, none⟩) (Nat.le_refl _) (.int .i64 st)).setCell (p := ⟨w.heap.size, 2, none⟩) (Nat.le_refl _) (.slice p n c)).setCell (p := ⟨w.heap.size, 3, none⟩) (Nat.le_refl _) (.slice q m d)).setCell (p := ⟨w.heap.size, 4, none⟩) (Nat.le_refl _) (.slice a b0 e0))
      refine bodyPost_ret (ret_cell9 rfl _ _ w.heap.size _ _ _ _ rfl hF Tryz.underlying43 rfl (by kernel_rfl)) rfl ⟨⟨si, st, ⟨⟨p, n, c⟩, ⟨q, m, d⟩, f⟩, ⟨a, b0, e0⟩, dd⟩, ?_, ?_, hO9.fits, hB9⟩
      · rw [HW.out]; rfl
      · rw [HW.out]; exact HX.out
end Go.Proofs.YtnbaoimjcaeeaaaGreat
