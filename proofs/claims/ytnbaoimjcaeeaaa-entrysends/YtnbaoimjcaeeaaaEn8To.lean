import Derived.Test.YtnbaoimjcaeeaaaEn1To
import Derived.Test.YtnbaoimjcaeeaaaCmGTo
/-
  Contracts: corbelref10.nums, list, conf, entry, snap, Bytes, HardBytes, SnapBytes.
-/
namespace Go.Proofs.Ytnbaoimjcaeeaaa
open Go.RowKit Go.Shelf

/-- What each of these calls leaves: bytes, and old memory as it was. -/
def Outs (w : World) (ys : List Int) (e : Ending) (w' : World) : Prop := ∃ v', e = .returned v' ∧ Has w' v' ys ∧ Below w.heap.size w w'

set_option maxRecDepth 100000 in
set_option maxHeartbeats 1500000 in
theorem rnums_any (w : World) (v : Value) (xs ns : List Int) (p : Option Addr) (n c : Nat) (h : Has w v xs) (hN : HasI w (.slice p n c) ns) (hn2 : n ≤ 1000) (hl : xs.length ≤ 1073741824) :
    Calls Try.prog 47 #[v, .slice p n c] w (Outs w (xs ++ numsB ns)) := by
  have HN : Hid (ns.length = n) := hN.len.1
  have HX : Hid (HasI w (.slice p n c) ns) := hN
  clear hN
  go_enter Try.func47, Try.ntmps47
  go_wp2
  go_loopw [0, 9] (fun s0 s9 wr => ∃ (j : Nat) (u : Value), u = s0 ∧ j ≤ n ∧ s9 = .int .i64 (j : Nat) ∧ Has wr u (xs ++ numsB (ns.take j)) ∧ Below w.heap.size w wr) (fun _ s9 _ => n - (intOf s9).toNat)
  case atStart => exact ⟨0, _, rfl, Nat.zero_le _, rfl, by rw [List.take_zero, show numsB [] = [] from rfl, List.append_nil]; exact h, Below.refl _ _⟩
  case round =>
    clear h
    obtain ⟨j, u, hu, hj, rfl, hP, hb⟩ := hrel
    subst hu
    by_cases hlt : j < n
    · obtain ⟨b, o, rfl, hb0, hc0⟩ := HX.out.at hlt
      have hc := (hb.cell (p := ⟨b, o + j, none⟩) hb0).trans hc0
      have hbl : b < wr.heap.size := Nat.lt_of_lt_of_le hb0 hb.size
      have HS : Hid (numsB (ns.take (j + 1)) = numsB (ns.take j) ++ zigB (ns.getD j 0)) := numsB_snoc (by rw [HN.out]; exact hlt)
      have hlen := numsB_take ns j
      rw [HN.out] at hlen
      generalize ns.getD j 0 = x at *
      have hzz := rzig_any x wr
      have hzb := zig_bd x
      have hpp := rput_cod u _ (zigS x) wr hP (by rw [List.length_append]; omega) hzb.1 hzb.2
      have HZ : Hid (zigB x = numB (zigS x)) := rfl
      generalize zigS x = z at *
      have hbz := hb.size
      clear hP hc0 hb0
      go_wp2_with fail
      refine same_mono hzz ?_
      go_wp2_with fail
      refine hpp.mono ?_
      rintro e w3 ⟨v3, rfl, ho3, hb3⟩
      clear hzz hpp
      go_wp2
      go_roundw
      case rel => exact ⟨j + 1, _, rfl, by omega, by go_num, by rw [HS.out, HZ.out, ← List.append_assoc]; exact ho3.has, hb.trans (hb3.mono hbz)⟩
      case measure => simp only [intOf]; omega
    · rw [List.take_of_length_le (by rw [HN.out]; omega)] at hP
      go_wp2
      go_ret
      exact ⟨_, rfl, hP, hb⟩

set_option maxRecDepth 100000 in
set_option maxHeartbeats 1500000 in
theorem rlist_any (w : World) (v : Value) (xs ns : List Int) (p : Option Addr) (n c : Nat) (h : Has w v xs) (hN : HasI w (.slice p n c) ns) (hn2 : n ≤ 1000) (hl : xs.length ≤ 1073700000) :
    Calls Try.prog 106 #[v, .slice p n c] w (Outs w (xs ++ listB ns)) := by
  have hn := hN.len.1
  have HL : Hid (xs ++ listB ns = xs ++ numB (n : Int) ++ numsB ns) := by rw [Hid, listB, hn, List.append_assoc]
  have k1 := rput_cod v xs (n : Int) w h (by omega) (by omega) (by omega)
  have hnl := numB_le (n : Int)
  have k2 := fun W u (hb : Below w.heap.size w W) (hu : Has W u (xs ++ numB (n : Int))) => rnums_any W u _ ns p n c hu (hN.below hb (Nat.le_refl _)) hn2 (by rw [List.length_append]; omega)
  clear h hN hn
  go_enter Try.func106, Try.ntmps106
  go_wp2_with fail
  refine k1.mono ?_
  rintro e w1 ⟨v1, rfl, ho1, hb1⟩
  have k3 := k2 w1 v1 hb1 ho1.has
  clear k1 k2
  go_wp2_with fail
  refine k3.mono ?_
  rintro e w2 ⟨v2, rfl, ho2, hb2⟩
  go_wp2
  go_ret
  exact ⟨_, rfl, by rw [HL.out]; exact ho2, hb1.trans (hb2.mono hb1.size)⟩

theorem keepF {w1 wA wB : World} {b : Nat} {xb0 xb1 : Value} (hlb : b < w1.heap.size) (h : wA.cell? ⟨b, 0, none⟩ = some xb0 ∧ wA.cell? ⟨b, 1, none⟩ = some xb1 ∧ Below w1.heap.size w1 wA) (hb : Below wA.heap.size wA wB) :
    wB.cell? ⟨b, 0, none⟩ = some xb0 ∧ wB.cell? ⟨b, 1, none⟩ = some xb1 ∧ Below w1.heap.size w1 wB := by
  obtain ⟨h0, h1, hz⟩ := h
  have hs := hz.size
  exact ⟨(hb.cell (p := ⟨b, 0, none⟩) (by exact Nat.lt_of_lt_of_le hlb hs)).trans h0, (hb.cell (p := ⟨b, 1, none⟩) (by exact Nat.lt_of_lt_of_le hlb hs)).trans h1, hz.trans (hb.mono hs)⟩
theorem keepF0 {w1 : World} {b : Nat} {xb0 xb1 : Value} (h0 : w1.cell? ⟨b, 0, none⟩ = some xb0) (h1 : w1.cell? ⟨b, 1, none⟩ = some xb1) : w1.drew.cell? ⟨b, 0, none⟩ = some xb0 ∧ w1.drew.cell? ⟨b, 1, none⟩ = some xb1 ∧ Below w1.heap.size w1 w1.drew :=
  ⟨h0, h1, ⟨rfl, rfl, rfl, Nat.le_refl _, fun _ _ => rfl⟩⟩
theorem keepFB {w1 wA : World} {b : Nat} {xb0 xb1 : Value} (h : wA.cell? ⟨b, 0, none⟩ = some xb0 ∧ wA.cell? ⟨b, 1, none⟩ = some xb1 ∧ Below w1.heap.size w1 wA) : Below w1.heap.size w1 wA := h.2.2

theorem keepS {w1 wA wB : World} {b : Nat} {xb0 xb1 xb2 xb3 xb4 : Value} (hlb : b < w1.heap.size) (h : wA.cell? ⟨b, 0, none⟩ = some xb0 ∧ wA.cell? ⟨b, 1, none⟩ = some xb1 ∧ wA.cell? ⟨b, 2, none⟩ = some xb2 ∧ wA.cell? ⟨b, 3, none⟩ = some xb3 ∧ wA.cell? ⟨b, 4, none⟩ = some xb4 ∧ Below w1.heap.size w1 wA) (hb : Below wA.heap.size wA wB) :
    wB.cell? ⟨b, 0, none⟩ = some xb0 ∧ wB.cell? ⟨b, 1, none⟩ = some xb1 ∧ wB.cell? ⟨b, 2, none⟩ = some xb2 ∧ wB.cell? ⟨b, 3, none⟩ = some xb3 ∧ wB.cell? ⟨b, 4, none⟩ = some xb4 ∧ Below w1.heap.size w1 wB := by
  obtain ⟨h0, h1, h2, h3, h4, hz⟩ := h
  have hs := hz.size
  exact ⟨(hb.cell (p := ⟨b, 0, none⟩) (by exact Nat.lt_of_lt_of_le hlb hs)).trans h0, (hb.cell (p := ⟨b, 1, none⟩) (by exact Nat.lt_of_lt_of_le hlb hs)).trans h1, (hb.cell (p := ⟨b, 2, none⟩) (by exact Nat.lt_of_lt_of_le hlb hs)).trans h2, (hb.cell (p := ⟨b, 3, none⟩) (by exact Nat.lt_of_lt_of_le hlb hs)).trans h3, (hb.cell (p := ⟨b, 4, none⟩) (by exact Nat.lt_of_lt_of_le hlb hs)).trans h4, hz.trans (hb.mono hs)⟩
theorem keepS0 {w1 : World} {b : Nat} {xb0 xb1 xb2 xb3 xb4 : Value} (h0 : w1.cell? ⟨b, 0, none⟩ = some xb0) (h1 : w1.cell? ⟨b, 1, none⟩ = some xb1) (h2 : w1.cell? ⟨b, 2, none⟩ = some xb2) (h3 : w1.cell? ⟨b, 3, none⟩ = some xb3) (h4 : w1.cell? ⟨b, 4, none⟩ = some xb4) : w1.drew.cell? ⟨b, 0, none⟩ = some xb0 ∧ w1.drew.cell? ⟨b, 1, none⟩ = some xb1 ∧ w1.drew.cell? ⟨b, 2, none⟩ = some xb2 ∧ w1.drew.cell? ⟨b, 3, none⟩ = some xb3 ∧ w1.drew.cell? ⟨b, 4, none⟩ = some xb4 ∧ Below w1.heap.size w1 w1.drew :=
  ⟨h0, h1, h2, h3, h4, ⟨rfl, rfl, rfl, Nat.le_refl _, fun _ _ => rfl⟩⟩
theorem keepSB {w1 wA : World} {b : Nat} {xb0 xb1 xb2 xb3 xb4 : Value} (h : wA.cell? ⟨b, 0, none⟩ = some xb0 ∧ wA.cell? ⟨b, 1, none⟩ = some xb1 ∧ wA.cell? ⟨b, 2, none⟩ = some xb2 ∧ wA.cell? ⟨b, 3, none⟩ = some xb3 ∧ wA.cell? ⟨b, 4, none⟩ = some xb4 ∧ Below w1.heap.size w1 wA) : Below w1.heap.size w1 wA := h.2.2.2.2.2

set_option maxRecDepth 100000 in
set_option maxHeartbeats 2000000 in
theorem rconf_any (w : World) (v : Value) (xs : List Int) (x : ConfV) (h : Has w v xs) (hF : FitsF w x) (hf : FewF x.f) (hl : xs.length ≤ 1073600000) :
    Calls Try.prog 76 #[v, .agg x.arr] w (Outs w (xs ++ confB x.f)) := by
  have hb1 : Below w.heap.size w (w.alloc (.cells x.arr 26)) := (Below.refl _ _).alloc (Nat.le_refl _) _
  have hbz := hb1.size
  have hbox : ConfAt (w.alloc (.cells x.arr 26)) w.heap.size x := heap_alloc_new w _
  have hn1 := hF.u.len.1
  have hn2 := hF.v.len.1
  obtain ⟨f1, f2⟩ := hf
  have HC : Hid (xs ++ confB x.f = xs ++ listB x.f.vs ++ listB x.f.ls) := by rw [Hid, confB, List.append_assoc]
  have hll := listB_len x.f.vs
  have k1 := fun W (hb : Below (w.alloc (.cells x.arr 26)).heap.size (w.alloc (.cells x.arr 26)) W) => rlist_any W v xs x.f.vs _ _ _ ((h.below hb1 (Nat.le_refl _)).below hb (Nat.le_refl _)) ((hF.below hb1).below hb).u (by omega) (by omega)
  have k2 := fun W u (hu : Has W u (xs ++ listB x.f.vs)) (hb : Below (w.alloc (.cells x.arr 26)).heap.size (w.alloc (.cells x.arr 26)) W) => rlist_any W u (xs ++ listB x.f.vs) x.f.ls _ _ _ hu ((hF.below hb1).below hb).v (by omega) (by rw [List.length_append]; omega)
  have HK1 : Hid _ := k1
  have HK2 : Hid _ := k2
  generalize xs ++ confB x.f = bs at *
  generalize xs ++ listB x.f.vs ++ listB x.f.ls = y2 at *
  generalize xs ++ listB x.f.vs = y1 at *
  obtain ⟨pv, cv, rfl, -, -, -⟩ := id h
  generalize hxl : xs.length = nv at *
  clear hxl
  obtain ⟨⟨p, n, c⟩, ⟨q, m, d⟩, f⟩ := x
  unfold ConfV.arr at *
  dsimp only at *
  clear hF hn1 hn2 h k1 k2
  go_enter Try.func76, Try.ntmps76
  go_wp2_with fail
  generalize w.alloc (.cells #[.slice p n c, .slice q m d] 26) = W1 at *
  have k1 := HK1.out
  have k2 := HK2.out
  obtain ⟨c0, c1⟩ := hbox.cells
  dsimp only at c0 c1
  have hlt := box_lt hbox
  generalize hbb : w.heap.size = b at *
  have Hbb : Hid (w.heap.size = b) := hbb
  clear hbb HK1 HK2
  have s0 := keepF0 c0 c1
  go_region_held3 (fun w' => w'.cell? ⟨b, 0, none⟩ = some (.slice p n c) ∧ w'.cell? ⟨b, 1, none⟩ = some (.slice q m d) ∧ Below W1.heap.size W1 w')
    (first | exact s0 | assumption | exact keepF hlt (by assumption) (by assumption))
    (first
      | (go_at_call 106; (with_reducible refine Calls.mono (k1 _ (keepFB (by assumption))) ?_); rintro e w2 ⟨v2, rfl, ho2, hb2⟩; obtain ⟨p2, q2, rfl, -, -, -⟩ := id ho2)
      | (go_at_call 106; (with_reducible refine Calls.mono (k2 _ _ ho2 (keepFB (by assumption))) ?_); rintro e w3 ⟨v3, rfl, ho3, hb3⟩))
  all_goals
    have hW : Below W1.heap.size W1 w3 := keepFB (by assumption)
    go_wp2
    go_ret
    exact ⟨_, rfl, by rw [HC.out]; exact ho3, by rw [Hbb.out]; exact hb1.trans (hW.mono hbz)⟩

set_option maxRecDepth 100000 in
set_option maxHeartbeats 2000000 in
theorem rentry_any (w : World) (v : Value) (xs : List Int) (x : EntV) (h : Has w v xs) (hF : FitsF w x.f) (hf : FewF x.f.f) (hc : FewC x.c) (hl : xs.length ≤ 1073000000) :
    Calls Try.prog 41 #[v, .agg x.arr] w (Outs w (xs ++ entB x.e)) := by
  have hb1 : Below w.heap.size w (w.alloc (.cells x.arr 28)) := (Below.refl _ _).alloc (Nat.le_refl _) _
  have hbox : EntAt (w.alloc (.cells x.arr 28)) w.heap.size x := heap_alloc_new w _
  have HE : Hid (entB x.e = zigB x.i ++ zigB x.t ++ zigB x.k ++ (if x.k = 2 then bytB (cmdB x.c) else []) ++ (if x.k = 3 then confB x.f.f else [])) := rfl
  have HN : Hid (numsB [x.i, x.t, x.k] = zigB x.i ++ zigB x.t ++ zigB x.k) := by simp [Hid, numsB]
  have hl1 : (numsB [x.i, x.t, x.k]).length ≤ 27 := numsB_len _
  have kb := fun W => rbytes20_any x.c W hc
  have hcl := cmdB_few hc
  have HBc : Hid (IsB (cmdB x.c)) := cmdB_isB x.c
  have kt : Hid (∀ W u, Has W u (xs ++ numsB [x.i, x.t, x.k]) → Calls Try.prog 74 #[u, .string (strOfNums (cmdB x.c))] W fun e w' => ∃ v', e = .returned v' ∧ Owns w' W.heap.size 5 v' (xs ++ numsB [x.i, x.t, x.k] ++ bytB (cmdB x.c)) ∧ Below W.heap.size W w') := fun W u hu => by
    have := rputText_any u _ (strOfNums (cmdB x.c)) W hu (by rw [List.length_append]; omega) (by rw [size_of HBc.out]; omega)
    rwa [textB_of HBc.out] at this
  have kf : Hid (∀ W u, Below w.heap.size w W → Has W u (xs ++ numsB [x.i, x.t, x.k]) → Calls Try.prog 76 #[u, .agg x.f.arr] W (Outs W (xs ++ numsB [x.i, x.t, x.k] ++ confB x.f.f))) := fun W u hb hu => rconf_any W u _ x.f hu (hF.below hb) hf (by rw [List.length_append]; omega)
  have kn := fun W (hb : Below w.heap.size w W) p (hR : HasI W (.slice p 3 3) [x.i, x.t, x.k]) => rnums_any W v xs [x.i, x.t, x.k] p 3 3 (h.below hb (Nat.le_refl _)) hR (by omega) (by omega)
  have HKN : Hid _ := kn
  clear kn h hl hcl hc hf hF
  generalize numsB [x.i, x.t, x.k] = ns at *
  generalize confB x.f.f = fb at *
  generalize hbs : entB x.e = bs at *
  clear hbs
  obtain ⟨i, t, k, ⟨ck, cs, cq, ckey, cold, cval, cunt, clim⟩, ⟨⟨p, n, c⟩, ⟨q, m, d⟩, f⟩⟩ := x
  unfold EntV.arr at *
  unfold ConfV.arr Cmd9.arr at *
  dsimp only at *
  have hr := HasI.lit (w.alloc (.cells #[.int .i64 i, .int .i64 t, .int .i64 k, .int .i64 ck, .int .i64 cs, .int .i64 cq, .string ckey, .string cold, .string cval, .string cunt, .int .i64 clim, .slice p n c, .slice q m d] 28)) [i, t, k] 3
  have hz1 : (w.alloc (.cells #[.int .i64 i, .int .i64 t, .int .i64 k, .int .i64 ck, .int .i64 cs, .int .i64 cq, .string ckey, .string cold, .string cval, .string cunt, .int .i64 clim, .slice p n c, .slice q m d] 28)).heap.size = w.heap.size + 1 := by simp
  have hb2 := (Below.refl _ (w.alloc (.cells #[.int .i64 i, .int .i64 t, .int .i64 k, .int .i64 ck, .int .i64 cs, .int .i64 cq, .string ckey, .string cold, .string cval, .string cunt, .int .i64 clim, .slice p n c, .slice q m d] 28))).alloc (Nat.le_refl _) (.cells #[.int .i64 i, .int .i64 t, .int .i64 k] 3)
  rw [hz1] at hr
  have hB2 := hb1.trans (hb2.mono hb1.size)
  have k1 := HKN.out _ hB2 _ hr
  have hbox2 := box_below hbox hb2
  clear hbox hr HKN hb2 hb1
  go_enter Try.func41, Try.ntmps41
  go_wp2_with fail
  generalize (w.alloc (.cells #[.int .i64 i, .int .i64 t, .int .i64 k, .int .i64 ck, .int .i64 cs, .int .i64 cq, .string ckey, .string cold, .string cval, .string cunt, .int .i64 clim, .slice p n c, .slice q m d] 28)).alloc (.cells #[.int .i64 i, .int .i64 t, .int .i64 k] 3) = W2 at *
  refine k1.mono ?_
  rintro e w3 ⟨v3, rfl, ho3, hb3⟩
  have hB3 := hB2.trans (hb3.mono hB2.size)
  have hbox3 : EntAt w3 w.heap.size ⟨i, t, k, ⟨ck, cs, cq, ckey, cold, cval, cunt, clim⟩, ⟨⟨p, n, c⟩, ⟨q, m, d⟩, f⟩⟩ := box_below hbox2 hb3
  obtain ⟨c0, c1, c2, c3, c4, c5, c6, c7, c8, c9, c10, c11, c12⟩ := hbox3.cells
  dsimp only at c0 c1 c2 c3 c4 c5 c6 c7 c8 c9 c10 c11 c12
  have hlt := box_lt hbox3
  clear k1 hbox2
  by_cases h2 : k = 2
  · have HE2 : Hid (xs ++ bs = xs ++ ns ++ bytB (cmdB ⟨ck, cs, cq, ckey, cold, cval, cunt, clim⟩)) := by rw [Hid, HE.out, ← HN.out, if_pos h2, if_neg (by omega), List.append_nil, List.append_assoc]
    subst h2
    clear HE
    go_wp2_with fail
    refine (kb _).mono ?_
    rintro e w4 ⟨v4, rfl, ho4, hb4⟩
    have k5 := kt.out w4 v3 (ho3.below hb4 (Nat.le_refl _))
    have cv := ho4.has.conv (P := Try.prog) 34 5 9 Try.underlying34 Try.underlying5 Try.underlying9
    have hB4 := hB3.trans (hb4.mono hB3.size)
    have hbox4 : EntAt w4 w.heap.size ⟨i, t, 2, ⟨ck, cs, cq, ckey, cold, cval, cunt, clim⟩, ⟨⟨p, n, c⟩, ⟨q, m, d⟩, f⟩⟩ := box_below hbox3 hb4
    obtain ⟨p4, q4, hv4, -, -, -⟩ := id ho4.has
    rw [hv4] at cv ⊢
    generalize cmdB ⟨ck, cs, cq, ckey, cold, cval, cunt, clim⟩ = cb at *
    generalize cb.length = lcb at *
    generalize strOfNums cb = sb at *
    clear kb c0 c1 c2 c3 c4 c5 c6 c7 c8 c9 c10 c11 c12 hlt hbox3
    go_wp2_with fail
    refine k5.mono ?_
    rintro e w5 ⟨v5, rfl, ho5, hb5⟩
    have hbox5 : EntAt w5 w.heap.size ⟨i, t, 2, ⟨ck, cs, cq, ckey, cold, cval, cunt, clim⟩, ⟨⟨p, n, c⟩, ⟨q, m, d⟩, f⟩⟩ := box_below hbox4 hb5
    obtain ⟨-, -, c2, -⟩ := hbox5.cells
    dsimp only at c2
    have hlt := box_lt hbox5
    go_wp2
    go_ret
    exact ⟨_, rfl, by rw [HE2.out]; exact ho5.has, hB4.trans (hb5.mono hB4.size)⟩
  · have e2 : (k == 2) = false := by simpa using h2
    by_cases h3 : k = 3
    · have HE2 : Hid (xs ++ bs = xs ++ ns ++ fb) := by rw [Hid, HE.out, ← HN.out, if_neg h2, if_pos h3, List.append_nil, List.append_assoc]
      subst h3
      have k5 := kf.out w3 v3 hB3 ho3
      clear HE kb
      go_wp2_with fail
      refine k5.mono ?_
      rintro e w5 ⟨v5, rfl, ho5, hb5⟩
      go_wp2
      go_ret
      exact ⟨_, rfl, by rw [HE2.out]; exact ho5, hB3.trans (hb5.mono hB3.size)⟩
    · have HE2 : Hid (xs ++ bs = xs ++ ns) := by rw [Hid, HE.out, ← HN.out, if_neg h2, if_neg h3, List.append_nil, List.append_nil]
      have e3 : (k == 3) = false := by simpa using h3
      clear HE kb
      go_wp2
      go_ret
      exact ⟨_, rfl, by rw [HE2.out]; exact ho3, hB3⟩

set_option maxRecDepth 100000 in
set_option maxHeartbeats 1500000 in
theorem rbytesE_any (w : World) (x : EntV) (hF : FitsF w x.f) (hf : FewF x.f.f) (hc : FewC x.c) :
    Calls Try.prog 15 #[.agg x.arr] w (Outs w (entB x.e)) := by
  have hb1 : Below w.heap.size w (w.alloc (.cells x.arr 28)) := (Below.refl _ _).alloc (Nat.le_refl _) _
  have k1 := rentry_any (w.alloc (.cells x.arr 28)) (.slice none 0 0) [] x (Has.nil _) (hF.below hb1) hf hc (by simp)
  rw [List.nil_append] at k1
  generalize entB x.e = bs at *
  obtain ⟨i, t, k, ⟨ck, cs, cq, ckey, cold, cval, cunt, clim⟩, ⟨⟨p, n, c⟩, ⟨q, m, d⟩, f⟩⟩ := x
  unfold EntV.arr at *
  dsimp only at *
  go_enter Try.func15, Try.ntmps15
  go_wp2_with fail
  refine k1.mono ?_
  rintro e w3 ⟨v3, rfl, ho3, hb3⟩
  go_wp2
  go_ret
  exact ⟨_, rfl, ho3, hb1.trans (hb3.mono hb1.size)⟩

set_option maxRecDepth 100000 in
set_option maxHeartbeats 1500000 in
theorem rbytesH_any (w : World) (x : Hard10) :
    Calls Try.prog 26 #[.agg x.arr] w (Outs w (hardB x)) := by
  have hb1 : Below w.heap.size w (w.alloc (.cells x.arr 41)) := (Below.refl _ _).alloc (Nat.le_refl _) _
  have hz1 : (w.alloc (.cells x.arr 41)).heap.size = w.heap.size + 1 := by simp
  have HN : Hid (hardB x = numsB [x.t, x.v, x.c]) := by simp [Hid, numsB, hardB]
  have hr := HasI.lit (w.alloc (.cells x.arr 41)) [x.t, x.v, x.c] 3
  have hb2 := (Below.refl _ (w.alloc (.cells x.arr 41))).alloc (Nat.le_refl _) (.cells #[.int .i64 x.t, .int .i64 x.v, .int .i64 x.c] 3)
  have hB2 := hb1.trans (hb2.mono hb1.size)
  rw [hz1] at hr
  have k1 := rnums_any _ (.slice none 0 0) [] [x.t, x.v, x.c] _ 3 3 (Has.nil _) hr (by omega) (by simp)
  rw [List.nil_append, ← HN.out] at k1
  clear HN hr hb2 hb1 hz1
  generalize hardB x = bs at *
  obtain ⟨t, v, c⟩ := x
  unfold Hard10.arr at *
  simp only [List.map_cons, List.map_nil] at k1
  dsimp only at *
  go_enter Try.func26, Try.ntmps26
  go_wp2_with fail
  refine k1.mono ?_
  rintro e w3 ⟨v3, rfl, ho3, hb3⟩
  go_wp2
  go_ret
  exact ⟨_, rfl, ho3, hB2.trans (hb3.mono hB2.size)⟩
end Go.Proofs.Ytnbaoimjcaeeaaa

/-
  Contracts: corbelref10.snap, SnapBytes.
-/
namespace Go.Proofs.Ytnbaoimjcaeeaaa
open Go.RowKit Go.Shelf

set_option maxRecDepth 100000 in
set_option maxHeartbeats 2000000 in
theorem rsnap_any (w : World) (v : Value) (xs : List Int) (x : SnapV) (h : Has w v xs) (hF : FitsS w x) (hf : FewF x.f.f) (hd : x.d.length ≤ 1000000) (hl : xs.length ≤ 1073000000) :
    Calls Try.prog 45 #[v, .agg x.arr] w (Outs w (xs ++ snapB x.s)) := by
  have hb1 : Below w.heap.size w (w.alloc (.cells x.arr 39)) := (Below.refl _ _).alloc (Nat.le_refl _) _
  have hbz := hb1.size
  have hbox : SnapAt (w.alloc (.cells x.arr 39)) w.heap.size x := heap_alloc_new w _
  have HN : Hid (numsB [x.i, x.t] = zigB x.i ++ zigB x.t) := by simp [Hid, numsB]
  have HE : Hid (xs ++ snapB x.s = xs ++ numsB [x.i, x.t] ++ confB x.f.f ++ bytB x.d) := by
    rw [Hid, HN.out]
    unfold snapB SnapV.s
    dsimp only
    simp only [List.append_assoc]
  have hl1 : (numsB [x.i, x.t]).length ≤ 18 := numsB_len _
  have hl2 := confB_len hf
  have kt : Hid (∀ W u, Has W u (xs ++ numsB [x.i, x.t] ++ confB x.f.f) → Calls Try.prog 74 #[u, .string (strOfNums x.d)] W fun e w' => ∃ v', e = .returned v' ∧ Owns w' W.heap.size 5 v' (xs ++ numsB [x.i, x.t] ++ confB x.f.f ++ bytB x.d) ∧ Below W.heap.size W w') := fun W u hu => by
    have := rputText_any u _ (strOfNums x.d) W hu (by rw [List.length_append, List.length_append]; omega) (by rw [size_of hF.b]; omega)
    rwa [textB_of hF.b] at this
  have kf : Hid (∀ W u, Below (w.alloc (.cells x.arr 39)).heap.size (w.alloc (.cells x.arr 39)) W → Has W u (xs ++ numsB [x.i, x.t]) → Calls Try.prog 76 #[u, .agg x.f.arr] W (Outs W (xs ++ numsB [x.i, x.t] ++ confB x.f.f))) := fun W u hb hu => rconf_any W u _ x.f hu ((hF.f.below hb1).below hb) hf (by rw [List.length_append]; omega)
  have kn : Hid (∀ (V : World) (R : Nat), HasI V (.slice (some ⟨R, 0, none⟩) 2 2) [x.i, x.t] → Below (w.alloc (.cells x.arr 39)).heap.size (w.alloc (.cells x.arr 39)) V → Calls Try.prog 47 #[v, .slice (some ⟨R, 0, none⟩) 2 2] V (Outs V (xs ++ numsB [x.i, x.t]))) := fun V R hR hb => rnums_any _ v xs [x.i, x.t] _ 2 2 ((h.below hb1 (Nat.le_refl _)).below hb (Nat.le_refl _)) hR (by omega) (by omega)
  have cv : Hid (∀ W, Below (w.alloc (.cells x.arr 39)).heap.size (w.alloc (.cells x.arr 39)) W → (convert 34 9 (.slice x.w.p x.w.n x.w.c)).run Try.prog W = .ok (.string (strOfNums x.d)) W) := fun W hb => ((hF.w.below hb1 (Nat.le_refl _)).below hb (Nat.le_refl _)).conv (P := Try.prog) 34 5 9 Try.underlying34 Try.underlying5 Try.underlying9
  obtain ⟨pv, cv0, rfl, -, -, -⟩ := id h
  generalize hxl : xs.length = nv at *
  clear hxl h hd hf hF HN
  generalize xs ++ snapB x.s = bs at *
  generalize xs ++ numsB [x.i, x.t] ++ confB x.f.f ++ bytB x.d = y3 at *
  generalize xs ++ numsB [x.i, x.t] ++ confB x.f.f = y2 at *
  generalize xs ++ numsB [x.i, x.t] = y1 at *
  obtain ⟨i, t, ⟨⟨p, n, c⟩, ⟨q, m, d⟩, f⟩, ⟨a, b0, e0⟩, dd⟩ := x
  unfold SnapV.arr at *
  unfold ConfV.arr at *
  dsimp only at *
  generalize strOfNums dd = sd at *
  go_enter Try.func45, Try.ntmps45
  go_wp2_with fail
  generalize w.alloc (.cells #[.int .i64 i, .int .i64 t, .slice p n c, .slice q m d, .slice a b0 e0] 39) = W1 at *
  have an := kn.out
  have af := kf.out
  have at' := kt.out
  have ac : Hid _ := cv.out
  clear kn kf kt cv
  obtain ⟨c0, c1, c2, c3, c4⟩ := hbox.cells
  dsimp only at c0 c1 c2 c3 c4
  have hlt := box_lt hbox
  generalize hbb : w.heap.size = b at *
  have Hbb : Hid (w.heap.size = b) := hbb
  clear hbb
  have cd : (convert 34 9 (.slice a b0 e0)).run Try.prog W1.drew = .ok (.string sd) W1.drew := ac.out _ ⟨rfl, rfl, rfl, Nat.le_refl _, fun _ _ => rfl⟩
  have s0 := And.intro cd (keepS0 c0 c1 c2 c3 c4)
  have hlit : HasI (W1.alloc (.cells #[.int .i64 i, .int .i64 t] 3)).drew (.slice (some ⟨W1.heap.size, 0, none⟩) 2 2) [i, t] := HasI.lit W1 [i, t] 3
  have kk : Hid (∀ wA wB : World, ((convert 34 9 (.slice a b0 e0)).run Try.prog wA = .ok (.string sd) wA ∧ wA.cell? ⟨b, 0, none⟩ = some (.int .i64 i) ∧ wA.cell? ⟨b, 1, none⟩ = some (.int .i64 t) ∧ wA.cell? ⟨b, 2, none⟩ = some (.slice p n c) ∧ wA.cell? ⟨b, 3, none⟩ = some (.slice q m d) ∧ wA.cell? ⟨b, 4, none⟩ = some (.slice a b0 e0) ∧ Below W1.heap.size W1 wA) → Below wA.heap.size wA wB → ((convert 34 9 (.slice a b0 e0)).run Try.prog wB = .ok (.string sd) wB ∧ wB.cell? ⟨b, 0, none⟩ = some (.int .i64 i) ∧ wB.cell? ⟨b, 1, none⟩ = some (.int .i64 t) ∧ wB.cell? ⟨b, 2, none⟩ = some (.slice p n c) ∧ wB.cell? ⟨b, 3, none⟩ = some (.slice q m d) ∧ wB.cell? ⟨b, 4, none⟩ = some (.slice a b0 e0) ∧ Below W1.heap.size W1 wB)) := fun wA wB h hb => ⟨ac.out wB (keepSB (keepS hlt h.2 hb)), keepS hlt h.2 hb⟩
  have kb : Hid (∀ wA : World, ((convert 34 9 (.slice a b0 e0)).run Try.prog wA = .ok (.string sd) wA ∧ wA.cell? ⟨b, 0, none⟩ = some (.int .i64 i) ∧ wA.cell? ⟨b, 1, none⟩ = some (.int .i64 t) ∧ wA.cell? ⟨b, 2, none⟩ = some (.slice p n c) ∧ wA.cell? ⟨b, 3, none⟩ = some (.slice q m d) ∧ wA.cell? ⟨b, 4, none⟩ = some (.slice a b0 e0) ∧ Below W1.heap.size W1 wA) → Below W1.heap.size W1 wA) := fun wA h => keepSB h.2
  go_region_held3 (fun w' => (convert 34 9 (.slice a b0 e0)).run Try.prog w' = .ok (.string sd) w' ∧ w'.cell? ⟨b, 0, none⟩ = some (.int .i64 i) ∧ w'.cell? ⟨b, 1, none⟩ = some (.int .i64 t) ∧ w'.cell? ⟨b, 2, none⟩ = some (.slice p n c) ∧ w'.cell? ⟨b, 3, none⟩ = some (.slice q m d) ∧ w'.cell? ⟨b, 4, none⟩ = some (.slice a b0 e0) ∧ Below W1.heap.size W1 w')
    (first | exact s0 | assumption | exact kk.out _ _ (by assumption) (by assumption) | exact kk.out _ _ (by assumption) ((Below.refl _ _).alloc (Nat.le_refl _) _))
    (first
      | (go_at_call 47; (with_reducible refine Calls.mono (an _ _ hlit (kb.out _ (by assumption))) ?_); rintro e w2 ⟨v2, rfl, ho2, hb2⟩; obtain ⟨p2, q2, rfl, -, -, -⟩ := id ho2)
      | (go_at_call 76; (with_reducible refine Calls.mono (af _ _ (kb.out _ (by assumption)) ho2) ?_); rintro e w3 ⟨v3, rfl, ho3, hb3⟩; obtain ⟨p3, q3, rfl, -, -, -⟩ := id ho3)
      | (go_at_call 74; (with_reducible refine Calls.mono (at' _ _ ho3) ?_); rintro e w4 ⟨v4, rfl, ho4, hb4⟩))
  all_goals
    have hW : Below W1.heap.size W1 w4 := kb.out _ (by assumption)
    go_wp2
    go_ret
    exact ⟨_, rfl, by rw [HE.out]; exact ho4.has, by rw [Hbb.out]; exact hb1.trans (hW.mono hbz)⟩

set_option maxRecDepth 100000 in
set_option maxHeartbeats 1500000 in
theorem rbytesS_any (w : World) (x : SnapV) (hF : FitsS w x) (hf : FewF x.f.f) (hd : x.d.length ≤ 1000000) :
    Calls Try.prog 24 #[.agg x.arr] w (Outs w (snapB x.s)) := by
  have hb1 : Below w.heap.size w (w.alloc (.cells x.arr 39)) := (Below.refl _ _).alloc (Nat.le_refl _) _
  have k1 := rsnap_any (w.alloc (.cells x.arr 39)) (.slice none 0 0) [] x (Has.nil _) (hF.below hb1) hf hd (by simp)
  rw [List.nil_append] at k1
  generalize snapB x.s = bs at *
  obtain ⟨i, t, ⟨⟨p, n, c⟩, ⟨q, m, d⟩, f⟩, ⟨a, b, e⟩, dd⟩ := x
  unfold SnapV.arr at *
  dsimp only at *
  go_enter Try.func24, Try.ntmps24
  go_wp2_with fail
  refine k1.mono ?_
  rintro e w3 ⟨v3, rfl, ho3, hb3⟩
  go_wp2
  go_ret
  exact ⟨_, rfl, ho3, hb1.trans (hb3.mono hb1.size)⟩
end Go.Proofs.Ytnbaoimjcaeeaaa
