import Derived.Test.YtkocomfcjklgcaaCgKTo
namespace Go.Proofs.Ytkocomfcjklgcaa
open Go.RowKit Go.Shelf

theorem take_no15 {P : Program} {ops : Array Oper} {Q : Exit → Act → World → Prop} {md : Region.Mode} {S : World → Prop} {fuel : Nat} {listed : Array Bool} {a : Act} {w : World} (i : Nat) (d : Option Tmp) {oi : Oper} (hi : ops[i]? = some oi) (hd : oi.dst = d)
    (hs : Region.noSelect ops = true) (hf : Region.free md ops listed i = true) (hr : (Region.ready md ops listed).contains i = true)
    (hQ : ∀ c a w, Q (.panic c) (a.put d undef) w → Q (.panic c) a w) (hw : Region.wanted oi (yielded ops a.tmps) = false) (hS : S w)
    (h : wpAnyH P md ops Q S fuel (listed.setIfInBounds i true) (a.put d undef) w) : wpAnyH P md ops Q S (fuel + 1) listed a w := by
  subst hd
  exact wpAnyH_take hi hs hf hr hQ (Or.inr ⟨hw, rfl⟩) hS h
theorem take_yes15 {P : Program} {ops : Array Oper} {Q : Exit → Act → World → Prop} {md : Region.Mode} {S : World → Prop} {fuel : Nat} {listed : Array Bool} {a : Act} {w : World} (i : Nat) (d : Option Tmp) (v : Value) {oi : Oper} (hi : ops[i]? = some oi) (hd : oi.dst = d)
    (hs : Region.noSelect ops = true) (hf : Region.free md ops listed i = true) (hr : (Region.ready md ops listed).contains i = true)
    (hQ : ∀ c a w, Q (.panic c) (a.put d v) w → Q (.panic c) a w) (hw : Region.wanted oi (yielded ops a.tmps) = true) (hy : ∀ w, S w → (execOp a.eval oi).run P w = .ok (.value v) w) (hS : S w)
    (h : wpAnyH P md ops Q S fuel (listed.setIfInBounds i true) (a.put d v) w) : wpAnyH P md ops Q S (fuel + 1) listed a w := by
  subst hd
  exact wpAnyH_take hi hs hf hr hQ (Or.inl ⟨hw, hy⟩) hS h
theorem most_any15 {x : ConfV} {w : World} {t : Value} {l : List Int} {r : Bool} (hG : Good15 x.f) (h : FitsF w x) (ht : HasI w t l) (ll : l.length ≤ 40000) (hr : maj15 x.f.vs (hasI10 l) = r) :
    Calls Try.prog 18 #[.agg x.arr, t] w fun e w' => e = .returned (.bool r) ∧ Below w.heap.size w w' := by
  have hk := majority_any x t l w h ht (Nat.le_trans hG.vs.len (by decide)) ll
  rwa [most_is15 hG.vs, hr] at hk
theorem maj_nil15 {vs : List Int} (h : Ris15 vs) : maj15 vs (hasI10 []) = false := maj_none15 h fun _ _ h => by cases h
theorem maj_all_own15 {c : Conf10} (h : Good15 c) : maj15 c.vs (hasI10 c.vs) = true := maj_all15 h.vs h.some fun _ hx => hasI_iff15.2 hx
theorem maj_learn15 {c : Conf10} (h : Good15 c) : maj15 c.vs (hasI10 c.ls) = false := maj_none15 h.vs fun x hx hl => h.apart x hx (hasI_iff15.1 hl)
theorem has_more15 {l : List Int} {n x : Int} (h : hasI10 l x = true) : hasI10 (l ++ [n]) x = true := hasI_iff15.2 (List.mem_append_left _ (hasI_iff15.1 h))

set_option maxRecDepth 100000 in
set_option maxHeartbeats 4000000 in
theorem confAll_of (x : ConfV) (s : Value) (l : List Int) (n : Int) (w : World) (h : FitsF w x) (ht : HasI w s l) (ll : l.length ≤ 17592186044416) :
    Calls Try.prog 6 #[.agg x.arr, s, .int .i64 n] w fun e w' => e = .returned (.bool true) ∧ Below w.heap.size w w' := by
  have hb1 : Below w.heap.size w (w.alloc (.cells x.arr 24)) := (Below.refl _ _).alloc (Nat.le_refl _) _
  have hx1 : ConfAt (w.alloc (.cells x.arr 24)) w.heap.size x := heap_alloc_new w _
  have kg := rgoodConf_any x _ (h.below hb1)
  obtain ⟨t, ct, rfl, -⟩ := ht.parts14
  cases hg : goodF10 x.f with
  | false =>
    rw [hg] at kg
    clear h ht hx1
    obtain ⟨⟨p, u, c⟩, ⟨q, v, d⟩, f⟩ := x
    unfold ConfV.arr at *
    dsimp only at *
    go_enter Try.func6, Try.ntmps6
    go_wp2_with fail
    refine kg.mono ?_
    rintro e w1 ⟨rfl, hb2⟩
    have hB2 := hb1.trans (hb2.mono hb1.size)
    go_wp2_with fail
    refine (lives15 _).mono ?_
    rintro e w2 ⟨rfl, hb3⟩
    go_wp2
    go_ret
    exact ⟨rfl, hB2.trans (hb3.mono hB2.size)⟩
  | true =>
  have hG := (good15_iff _).1 hg
  rw [hg] at kg
  by_cases hl : 100 < l.length
  · have hl' : (100 : Int) < (l.length : Int) := by omega
    clear h ht hx1 hG hg
    obtain ⟨⟨p, u, c⟩, ⟨q, v, d⟩, f⟩ := x
    unfold ConfV.arr at *
    dsimp only at *
    go_enter Try.func6, Try.ntmps6
    go_wp2_with fail
    refine kg.mono ?_
    rintro e w1 ⟨rfl, hb2⟩
    have hB2 := hb1.trans (hb2.mono hb1.size)
    go_wp2_with fail
    refine (lives15 _).mono ?_
    rintro e w2 ⟨rfl, hb3⟩
    go_wp2
    go_ret
    exact ⟨rfl, hB2.trans (hb3.mono hB2.size)⟩
  · have hl' : ¬ (100 : Int) < (l.length : Int) := by omega
    have hvl := hG.vs.len
    have hll := hG.ls.len
    have k1 := fun W (hb : Below w.heap.size w W) => most_any15 hG (h.below hb) (h.below hb).u (by omega) (maj_all_own15 hG)
    have k2 := fun W (hb : Below w.heap.size w W) => most_any15 hG (h.below hb) (h.below hb).v (by omega) (maj_learn15 hG)
    have k3 := fun W (hb : Below w.heap.size w W) => most_any15 hG (h.below hb) (HasI.nil W) (by decide) (maj_nil15 hG.vs)
    have k4 := fun W (hb : Below w.heap.size w W) => most_any15 hG (h.below hb) (ht.below hb (Nat.le_refl _)) (by omega) rfl
    have k5 := fun W m (hb : Below w.heap.size w W) (hm : HasI W m (l ++ [n])) => most_any15 hG (h.below hb) hm (by simp; omega) rfl
    have k6 := fun W (hb : Below w.heap.size w W) => has15_any _ _ n W (h.below hb).u (by omega)
    have hc1 : maj15 x.f.vs (hasI10 l) = true → maj15 x.f.vs (hasI10 (l ++ [n])) = true := maj_more15 fun _ h => has_more15 h
    have hc2 : hasI10 x.f.vs n = false → maj15 x.f.vs (hasI10 l) = maj15 x.f.vs (hasI10 (l ++ [n])) := fun h2 => maj_ask15 fun h3 => by rw [hasI_iff15.2 h3] at h2; cases h2
    generalize maj15 x.f.vs (hasI10 l) = r1 at *
    generalize maj15 x.f.vs (hasI10 (l ++ [n])) = r2 at *
    generalize hasI10 x.f.vs n = r3 at *
    obtain ⟨⟨p, u, c⟩, ⟨q, v, d⟩, f⟩ := x
    unfold ConfV.arr at *
    dsimp only at *
    have HL : Hid (l.length ≤ 100) := (by omega : l.length ≤ 100)
    have HT : Hid (HasI w (.slice t l.length ct) l) := ht
    have K5 : Hid _ := k5
    clear h ht hg hG hvl hll ll hl k5
    have hcs : (r1 = true ∧ r2 = true) ∨ (r1 = false ∧ (r3 = true ∨ r2 = false)) := by
      cases r1 with
      | true => exact .inl ⟨rfl, hc1 rfl⟩
      | false =>
        cases r3 with
        | true => exact .inr ⟨rfl, .inl rfl⟩
        | false => exact .inr ⟨rfl, .inr (hc2 rfl).symm⟩
    clear hc1 hc2
    go_enter Try.func6, Try.ntmps6
    go_wp2_with fail
    refine kg.mono ?_
    rintro e w1 ⟨rfl, hb2⟩
    have hB2 := hb1.trans (hb2.mono hb1.size)
    have hx2 := box_below hx1 hb2
    clear hb1 hb2 hx1 kg
    have hE := OwnsI.empty14 w1
    have hT1 := HT.out.below (hB2.alloc hB2.size (.cells #[] 3)) (Nat.le_refl _)
    go_wp2_with (first
      | (at_builtin; have hO1' := hO1; refine ap_int14 _ rfl _ _ rfl w1.heap.size _ l _ rfl rfl (by exact hO1) (by have := HL.out; omega) (by exact hsz1) ?_; intro v2 w4 hO2 hb4 hg4; have hb14 : Below w1.heap.size w1 w4 := ((Below.refl w1.heap.size w1).alloc (Nat.le_refl _) _).trans (hb3.trans hb4); have hx4 := box_below hx2 hb14; have c0 := box_cell hx4 0; have c1 := box_cell hx4 1; have hlt := box_lt hx4; dsimp only [ConfV.arr] at c0 c1; obtain ⟨pm, nm, cm, rfl⟩ := hO2.has.form15)
      | (at_builtin; refine ap_ints14 _ rfl _ _ rfl w1.heap.size _ [] l rfl (by exact hT1) (by exact hE) (by simp) (by have := HL.out; omega) (by simp) ?_; intro v1 w3 hO1 hb3; rw [List.nil_append] at hO1; have hsz1 : w1.heap.size ≤ w3.heap.size := by have := hb3.size; simp at this; omega))
    have hB4 : Below w.heap.size w w4 := hB2.trans (hb14.mono hB2.size)
    have hS0 : w4.cell? ⟨w.heap.size, 0, none⟩ = some (.slice p u c) ∧ w4.cell? ⟨w.heap.size, 1, none⟩ = some (.slice q v d) ∧ Below w4.heap.size w4 w4 ∧ w.heap.size < w4.heap.size := ⟨c0, c1, Below.refl _ _, hlt⟩
    have k5 := fun W (hb : Below w4.heap.size w4 W) => K5.out W _ (hB4.trans (hb.mono hB4.size)) (hO2.has.below hb (Nat.le_refl _))
    replace k1 := fun W (hb : Below w4.heap.size w4 W) => k1 W (hB4.trans (hb.mono hB4.size))
    replace k2 := fun W (hb : Below w4.heap.size w4 W) => k2 W (hB4.trans (hb.mono hB4.size))
    replace k3 := fun W (hb : Below w4.heap.size w4 W) => k3 W (hB4.trans (hb.mono hB4.size))
    replace k4 := fun W (hb : Below w4.heap.size w4 W) => k4 W (hB4.trans (hb.mono hB4.size))
    replace k6 := fun W (hb : Below w4.heap.size w4 W) => k6 W (hB4.trans (hb.mono hB4.size))
    clear hO1 hO1' hO2 hb3 hb4 hg4 hb14 hx4 hx2 hB2 hE hT1 HT HL K5
    rcases hcs with ⟨rfl, rfl⟩ | ⟨rfl, hcs⟩
    · go_wp2_with fail
      refine (k1 _ (heldK15 hS0)).mono ?_
      rintro e v1w ⟨rfl, hq1⟩
      have hS1 := keepK15 hq1 hS0
      obtain ⟨c0, c1, -, hlt⟩ := id hS1
      clear hS0
      go_wp2_with fail
      refine (k2 _ (heldK15 hS1)).mono ?_
      rintro e v2w ⟨rfl, hq2⟩
      have hS2 := keepK15 hq2 hS1
      obtain ⟨c0, c1, -, hlt⟩ := id hS2
      clear hS1
      go_wp2_with fail
      refine (k3 _ (heldK15 hS2)).mono ?_
      rintro e v3w ⟨rfl, hq3⟩
      have hS3 := keepK15 hq3 hS2
      obtain ⟨c0, c1, -, hlt⟩ := id hS3
      clear hS2
      go_wp2_with fail
      refine (k4 _ (heldK15 hS3)).mono ?_
      rintro e v4w ⟨rfl, hq4⟩
      have hS4 := keepK15 hq4 hS3
      obtain ⟨c0, c1, -, hlt⟩ := id hS4
      clear hS3
      go_wp2_with fail
      refine (k5 _ (heldK15 hS4)).mono ?_
      rintro e v5w ⟨rfl, hq5⟩
      have hS5 := keepK15 hq5 hS4
      obtain ⟨c0, c1, -, hlt⟩ := id hS5
      clear hS4
      cases r3 with
      | true =>
        have s0 := drewK15 hS5 0
        rw [show v5w.drewN 0 = v5w from rfl] at s0
        clear hS5 c0 c1 hlt
        go_wp2_with fail
        refine wp_region_held_drew (S := fun W => W.cell? ⟨w.heap.size, 0, none⟩ = some (.slice p u c) ∧ W.cell? ⟨w.heap.size, 1, none⟩ = some (.slice q v d) ∧ Below w4.heap.size w4 W ∧ w.heap.size < W.heap.size) (by kernel_rfl) s0 (fun hS => ?_)
        clear s0
        refine take_yes15 0 (some 49) (Value.pointer (some ⟨w.heap.size, 0, none⟩)) rfl rfl (by kernel_rfl) (by kernel_rfl) (by kernel_rfl) (fun _ _ _ h => h) (by rfl) (by intro W' hW; go_simp) hS ?_
        simp only [Act.put, List.setIfInBounds_toArray, List.set_cons_zero, List.set_cons_succ]
        refine take_yes15 1 (some 50) (Value.slice p u c) rfl rfl (by kernel_rfl) (by kernel_rfl) (by kernel_rfl) (fun _ _ _ h => h) (by rfl) (by intro W' hW; obtain ⟨q0, q1, -, ql⟩ := hW; go_simp) hS ?_
        simp only [Act.put, List.setIfInBounds_toArray, List.set_cons_zero, List.set_cons_succ]
        refine take_yes15 2 (some 51) (Value.int .i64 n) rfl rfl (by kernel_rfl) (by kernel_rfl) (by kernel_rfl) (fun _ _ _ h => h) (by rfl) (by intro W' hW; go_simp) hS ?_
        simp only [Act.put, List.setIfInBounds_toArray, List.set_cons_zero, List.set_cons_succ]
        refine wpAnyH_ready (rs := [3]) (by kernel_rfl) (by simp) ?_
        refine AllReadyH.cons rfl (fun K hK => ?_) AllReadyH.nil
        go_simp
        refine Calls.mono (k6 _ (heldK15 hS)) ?_
        rintro _ w1' ⟨rfl, rfl⟩
        dsimp only
        refine hK.out _ _ (hS) (fun hS => ?_)
        clear hK K
        try simp only [Act.put, List.setIfInBounds_toArray, List.set_cons_zero, List.set_cons_succ]
        refine take_yes15 4 (some 53) (Value.bool true) rfl rfl (by kernel_rfl) (by kernel_rfl) (by kernel_rfl) (fun _ _ _ h => h) (by rfl) (by intro W' hW; go_simp) hS ?_
        simp only [Act.put, List.setIfInBounds_toArray, List.set_cons_zero, List.set_cons_succ]
        refine take_no15 5 (some 54) rfl rfl (by kernel_rfl) (by kernel_rfl) (by kernel_rfl) (fun _ _ _ h => h) (by rfl) hS ?_
        simp only [Act.put, List.setIfInBounds_toArray, List.set_cons_zero, List.set_cons_succ]
        refine take_no15 6 (some 55) rfl rfl (by kernel_rfl) (by kernel_rfl) (by kernel_rfl) (fun _ _ _ h => h) (by rfl) hS ?_
        simp only [Act.put, List.setIfInBounds_toArray, List.set_cons_zero, List.set_cons_succ]
        refine take_no15 7 (some 56) rfl rfl (by kernel_rfl) (by kernel_rfl) (by kernel_rfl) (fun _ _ _ h => h) (by rfl) hS ?_
        simp only [Act.put, List.setIfInBounds_toArray, List.set_cons_zero, List.set_cons_succ]
        refine take_no15 8 (some 57) rfl rfl (by kernel_rfl) (by kernel_rfl) (by kernel_rfl) (fun _ _ _ h => h) (by rfl) hS ?_
        simp only [Act.put, List.setIfInBounds_toArray, List.set_cons_zero, List.set_cons_succ]
        refine take_no15 9 (some 58) rfl rfl (by kernel_rfl) (by kernel_rfl) (by kernel_rfl) (fun _ _ _ h => h) (by rfl) hS ?_
        simp only [Act.put, List.setIfInBounds_toArray, List.set_cons_zero, List.set_cons_succ]
        refine take_no15 10 (some 59) rfl rfl (by kernel_rfl) (by kernel_rfl) (by kernel_rfl) (fun _ _ _ h => h) (by rfl) hS ?_
        simp only [Act.put, List.setIfInBounds_toArray, List.set_cons_zero, List.set_cons_succ]
        refine take_no15 11 (some 60) rfl rfl (by kernel_rfl) (by kernel_rfl) (by kernel_rfl) (fun _ _ _ h => h) (by rfl) hS ?_
        simp only [Act.put, List.setIfInBounds_toArray, List.set_cons_zero, List.set_cons_succ]
        refine take_yes15 12 (some 61) (Value.bool true) rfl rfl (by kernel_rfl) (by kernel_rfl) (by kernel_rfl) (fun _ _ _ h => h) (by rfl) (by intro W' hW; go_simp) hS ?_
        simp only [Act.put, List.setIfInBounds_toArray, List.set_cons_zero, List.set_cons_succ]
        refine take_yes15 13 (some 62) (Value.bool true) rfl rfl (by kernel_rfl) (by kernel_rfl) (by kernel_rfl) (fun _ _ _ h => h) (by rfl) (by intro W' hW; go_simp) hS ?_
        simp only [Act.put, List.setIfInBounds_toArray, List.set_cons_zero, List.set_cons_succ]
        refine wpAnyH_ready (rs := [14]) (by kernel_rfl) (by simp) ?_
        refine AllReadyH.cons rfl (fun K hK => ?_) AllReadyH.nil
        go_simp
        refine Calls.mono (lives15 _) ?_
        rintro _ w8 ⟨rfl, g8⟩
        dsimp only
        refine hK.out _ _ (keepK15 g8 hS) (fun hS => ?_)
        clear hK K
        try simp only [Act.put, List.setIfInBounds_toArray, List.set_cons_zero, List.set_cons_succ]
        refine take_yes15 15 (some 64) (Value.bool true) rfl rfl (by kernel_rfl) (by kernel_rfl) (by kernel_rfl) (fun _ _ _ h => h) (by rfl) (by intro W' hW; go_simp) hS ?_
        simp only [Act.put, List.setIfInBounds_toArray, List.set_cons_zero, List.set_cons_succ]
        refine take_yes15 16 (some 6) (Value.bool true) rfl rfl (by kernel_rfl) (by kernel_rfl) (by kernel_rfl) (fun _ _ _ h => h) (by rfl) (by intro W' hW; go_simp) hS ?_
        simp only [Act.put, List.setIfInBounds_toArray, List.set_cons_zero, List.set_cons_succ]
        refine wpAnyH_done (by kernel_rfl) ?_ _
        go_wp2
        go_ret
        exact ⟨rfl, hB4.trans ((heldK15 hS).mono hB4.size)⟩

      | false =>
        have s0 := drewK15 hS5 0
        rw [show v5w.drewN 0 = v5w from rfl] at s0
        clear hS5 c0 c1 hlt
        go_wp2_with fail
        go_region_held3 (fun W => W.cell? ⟨w.heap.size, 0, none⟩ = some (.slice p u c) ∧ W.cell? ⟨w.heap.size, 1, none⟩ = some (.slice q v d) ∧ Below w4.heap.size w4 W ∧ w.heap.size < W.heap.size)
          (first | exact s0 | exact keepK15 (by assumption) (by assumption))
          (first
            | (go_at_call 19; refine same_mono (k6 _ (heldK15 (by assumption))) ?_)
            | (go_at_call 18; have g4' := g4; refine (k5 _ (heldK15 (by assumption))).mono ?_; rintro e w6 ⟨rfl, g5⟩)
            | (go_at_call 18; refine (k4 _ (heldK15 (by assumption))).mono ?_; rintro e w5 ⟨rfl, g4⟩)
            | (go_at_call 9; refine (lives15 _).mono ?_; rintro e w7 ⟨rfl, g7⟩))
        go_wp2
        go_ret
        exact ⟨rfl, hB4.trans ((heldK15 (by assumption)).mono hB4.size)⟩

    · go_wp2_with fail
      refine (k1 _ (heldK15 hS0)).mono ?_
      rintro e v1w ⟨rfl, hq1⟩
      have hS1 := keepK15 hq1 hS0
      obtain ⟨c0, c1, -, hlt⟩ := id hS1
      clear hS0
      go_wp2_with fail
      refine (k2 _ (heldK15 hS1)).mono ?_
      rintro e v2w ⟨rfl, hq2⟩
      have hS2 := keepK15 hq2 hS1
      obtain ⟨c0, c1, -, hlt⟩ := id hS2
      clear hS1
      go_wp2_with fail
      refine (k3 _ (heldK15 hS2)).mono ?_
      rintro e v3w ⟨rfl, hq3⟩
      have hS3 := keepK15 hq3 hS2
      obtain ⟨c0, c1, -, hlt⟩ := id hS3
      clear hS2
      go_wp2_with fail
      refine (k4 _ (heldK15 hS3)).mono ?_
      rintro e v4w ⟨rfl, hq4⟩
      have hS4 := keepK15 hq4 hS3
      obtain ⟨c0, c1, -, hlt⟩ := id hS4
      clear hS3
      cases r3 with
      | true =>
        have s0 := drewK15 hS4 0
        rw [show v4w.drewN 0 = v4w from rfl] at s0
        clear hS4 c0 c1 hlt
        go_wp2_with fail
        refine wp_region_held_drew (S := fun W => W.cell? ⟨w.heap.size, 0, none⟩ = some (.slice p u c) ∧ W.cell? ⟨w.heap.size, 1, none⟩ = some (.slice q v d) ∧ Below w4.heap.size w4 W ∧ w.heap.size < W.heap.size) (by kernel_rfl) s0 (fun hS => ?_)
        clear s0
        refine take_yes15 0 (some 49) (Value.pointer (some ⟨w.heap.size, 0, none⟩)) rfl rfl (by kernel_rfl) (by kernel_rfl) (by kernel_rfl) (fun _ _ _ h => h) (by rfl) (by intro W' hW; go_simp) hS ?_
        simp only [Act.put, List.setIfInBounds_toArray, List.set_cons_zero, List.set_cons_succ]
        refine take_yes15 1 (some 50) (Value.slice p u c) rfl rfl (by kernel_rfl) (by kernel_rfl) (by kernel_rfl) (fun _ _ _ h => h) (by rfl) (by intro W' hW; obtain ⟨q0, q1, -, ql⟩ := hW; go_simp) hS ?_
        simp only [Act.put, List.setIfInBounds_toArray, List.set_cons_zero, List.set_cons_succ]
        refine take_yes15 2 (some 51) (Value.int .i64 n) rfl rfl (by kernel_rfl) (by kernel_rfl) (by kernel_rfl) (fun _ _ _ h => h) (by rfl) (by intro W' hW; go_simp) hS ?_
        simp only [Act.put, List.setIfInBounds_toArray, List.set_cons_zero, List.set_cons_succ]
        refine wpAnyH_ready (rs := [3]) (by kernel_rfl) (by simp) ?_
        refine AllReadyH.cons rfl (fun K hK => ?_) AllReadyH.nil
        go_simp
        refine Calls.mono (k6 _ (heldK15 hS)) ?_
        rintro _ w1' ⟨rfl, rfl⟩
        dsimp only
        refine hK.out _ _ (hS) (fun hS => ?_)
        clear hK K
        try simp only [Act.put, List.setIfInBounds_toArray, List.set_cons_zero, List.set_cons_succ]
        refine take_yes15 4 (some 53) (Value.bool true) rfl rfl (by kernel_rfl) (by kernel_rfl) (by kernel_rfl) (fun _ _ _ h => h) (by rfl) (by intro W' hW; go_simp) hS ?_
        simp only [Act.put, List.setIfInBounds_toArray, List.set_cons_zero, List.set_cons_succ]
        refine take_no15 5 (some 54) rfl rfl (by kernel_rfl) (by kernel_rfl) (by kernel_rfl) (fun _ _ _ h => h) (by rfl) hS ?_
        simp only [Act.put, List.setIfInBounds_toArray, List.set_cons_zero, List.set_cons_succ]
        refine take_no15 6 (some 55) rfl rfl (by kernel_rfl) (by kernel_rfl) (by kernel_rfl) (fun _ _ _ h => h) (by rfl) hS ?_
        simp only [Act.put, List.setIfInBounds_toArray, List.set_cons_zero, List.set_cons_succ]
        refine take_no15 7 (some 56) rfl rfl (by kernel_rfl) (by kernel_rfl) (by kernel_rfl) (fun _ _ _ h => h) (by rfl) hS ?_
        simp only [Act.put, List.setIfInBounds_toArray, List.set_cons_zero, List.set_cons_succ]
        refine take_no15 8 (some 57) rfl rfl (by kernel_rfl) (by kernel_rfl) (by kernel_rfl) (fun _ _ _ h => h) (by rfl) hS ?_
        simp only [Act.put, List.setIfInBounds_toArray, List.set_cons_zero, List.set_cons_succ]
        refine take_no15 9 (some 58) rfl rfl (by kernel_rfl) (by kernel_rfl) (by kernel_rfl) (fun _ _ _ h => h) (by rfl) hS ?_
        simp only [Act.put, List.setIfInBounds_toArray, List.set_cons_zero, List.set_cons_succ]
        refine take_no15 10 (some 59) rfl rfl (by kernel_rfl) (by kernel_rfl) (by kernel_rfl) (fun _ _ _ h => h) (by rfl) hS ?_
        simp only [Act.put, List.setIfInBounds_toArray, List.set_cons_zero, List.set_cons_succ]
        refine take_no15 11 (some 60) rfl rfl (by kernel_rfl) (by kernel_rfl) (by kernel_rfl) (fun _ _ _ h => h) (by rfl) hS ?_
        simp only [Act.put, List.setIfInBounds_toArray, List.set_cons_zero, List.set_cons_succ]
        refine take_yes15 12 (some 61) (Value.bool true) rfl rfl (by kernel_rfl) (by kernel_rfl) (by kernel_rfl) (fun _ _ _ h => h) (by rfl) (by intro W' hW; go_simp) hS ?_
        simp only [Act.put, List.setIfInBounds_toArray, List.set_cons_zero, List.set_cons_succ]
        refine take_yes15 13 (some 62) (Value.bool true) rfl rfl (by kernel_rfl) (by kernel_rfl) (by kernel_rfl) (fun _ _ _ h => h) (by rfl) (by intro W' hW; go_simp) hS ?_
        simp only [Act.put, List.setIfInBounds_toArray, List.set_cons_zero, List.set_cons_succ]
        refine wpAnyH_ready (rs := [14]) (by kernel_rfl) (by simp) ?_
        refine AllReadyH.cons rfl (fun K hK => ?_) AllReadyH.nil
        go_simp
        refine Calls.mono (lives15 _) ?_
        rintro _ w8 ⟨rfl, g8⟩
        dsimp only
        refine hK.out _ _ (keepK15 g8 hS) (fun hS => ?_)
        clear hK K
        try simp only [Act.put, List.setIfInBounds_toArray, List.set_cons_zero, List.set_cons_succ]
        refine take_yes15 15 (some 64) (Value.bool true) rfl rfl (by kernel_rfl) (by kernel_rfl) (by kernel_rfl) (fun _ _ _ h => h) (by rfl) (by intro W' hW; go_simp) hS ?_
        simp only [Act.put, List.setIfInBounds_toArray, List.set_cons_zero, List.set_cons_succ]
        refine take_yes15 16 (some 6) (Value.bool true) rfl rfl (by kernel_rfl) (by kernel_rfl) (by kernel_rfl) (fun _ _ _ h => h) (by rfl) (by intro W' hW; go_simp) hS ?_
        simp only [Act.put, List.setIfInBounds_toArray, List.set_cons_zero, List.set_cons_succ]
        refine wpAnyH_done (by kernel_rfl) ?_ _
        go_wp2
        go_ret
        exact ⟨rfl, hB4.trans ((heldK15 hS).mono hB4.size)⟩

      | false =>
        obtain rfl : r2 = false := hcs.resolve_left (by decide)
        have s0 := drewK15 hS4 0
        rw [show v4w.drewN 0 = v4w from rfl] at s0
        clear hS4 c0 c1 hlt
        go_wp2_with fail
        go_region_held3 (fun W => W.cell? ⟨w.heap.size, 0, none⟩ = some (.slice p u c) ∧ W.cell? ⟨w.heap.size, 1, none⟩ = some (.slice q v d) ∧ Below w4.heap.size w4 W ∧ w.heap.size < W.heap.size)
          (first | exact s0 | exact keepK15 (by assumption) (by assumption))
          (first
            | (go_at_call 19; refine same_mono (k6 _ (heldK15 (by assumption))) ?_)
            | (go_at_call 18; have g4' := g4; refine (k5 _ (heldK15 (by assumption))).mono ?_; rintro e w6 ⟨rfl, g5⟩)
            | (go_at_call 18; refine (k4 _ (heldK15 (by assumption))).mono ?_; rintro e w5 ⟨rfl, g4⟩)
            | (go_at_call 9; refine (lives15 _).mono ?_; rintro e w7 ⟨rfl, g7⟩))
        go_wp2
        go_ret
        exact ⟨rfl, hB4.trans ((heldK15 (by assumption)).mono hB4.size)⟩

theorem confAll_row (x : ConfV) (s : Value) (l : List Int) (n : Int) (w : World) (h : FitsF w x) (ht : HasI w s l) (ll : l.length ≤ 17592186044416) (_hn : -9223372036854775808 ≤ n ∧ n ≤ 9223372036854775807) :
    Calls Try.prog 6 #[.agg x.arr, s, .int .i64 n] w fun e w' => e = .returned (.bool true) ∧ Below w.heap.size w w' := confAll_of x s l n w h ht ll
end Go.Proofs.Ytkocomfcjklgcaa
