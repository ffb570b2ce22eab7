/-
  The walk of corbellaw07.ImageImports.
-/
import Derived.Test.YthlghokgknkpaaaGreatDoorImLTo
import Derived.Test.YthlghokgknkpaaaGreatDoorImLTo
import Derived.Test.YthlghokgknkpaaaGreatDoorRM8To
import Derived.Test.YthlghokgknkpaaaGreatDoorRM8To
import Derived.Test.YthlghokgknkpaaaGreatDoorRM8To
import Derived.Deep.RegionHeld3
namespace Go.Proofs.YthlghokgknkpaaaGreatDoor
open Go.RowKit Go.Shelf Go.Lib

theorem key2 {w : World} {k : Nat} {x y : Value} {t : TypeId} (h : w.heap[k]? = some (.cells #[x, y] t (0, 0))) : w.cell? ⟨k, 0, none⟩ = some x ∧ w.cell? ⟨k, 1, none⟩ = some y := by
  constructor
  all_goals
    unfold World.cell?
    dsimp only
    rw [h]
    rfl
/-- One cell of a box, and all that is old, as it was. -/
theorem keepI {X w1 w2 : World} {s : Nat} {v0 : Value} (hs : s < X.heap.size) (hb : Below w1.heap.size w1 w2) (h : w1.cell? ⟨s, 2, none⟩ = some v0 ∧ Below X.heap.size X w1) : w2.cell? ⟨s, 2, none⟩ = some v0 ∧ Below X.heap.size X w2 := by
  obtain ⟨h1, h4⟩ := h
  have := h4.size
  exact ⟨(hb.cell (p := ⟨s, 2, none⟩) (by show s < _; omega)).trans h1, h4.trans (hb.mono h4.size)⟩
theorem heldI {a b : Prop} (h : a ∧ b) : b := h.2
theorem heldJ {a b : Prop} (h : a ∧ b) : a := h.1
theorem keepJ {X w1 w2 : World} (hb : Below w1.heap.size w1 w2) (h : Below X.heap.size X w1) : Below X.heap.size X w2 := h.trans (hb.mono h.size)

/-- An operation of a drawn region whose guard is not met, taken first. -/
theorem take_no {P : Program} {ops : Array Oper} {Q : Exit → Act → World → Prop} {md : Region.Mode} {S : World → Prop} {fuel : Nat} {listed : Array Bool} {a : Act} {w : World} (i : Nat) (d : Option Tmp) {oi : Oper} (hi : ops[i]? = some oi) (hd : oi.dst = d)
    (hs : Region.noSelect ops = true) (hf : Region.free md ops listed i = true) (hr : (Region.ready md ops listed).contains i = true)
    (hQ : ∀ c a w, Q (.panic c) (a.put d undef) w → Q (.panic c) a w) (hw : Region.wanted oi (yielded ops a.tmps) = false) (hS : S w)
    (h : wpAnyH P md ops Q S fuel (listed.setIfInBounds i true) (a.put d undef) w) : wpAnyH P md ops Q S (fuel + 1) listed a w := by
  subst hd
  exact wpAnyH_take hi hs hf hr hQ (Or.inr ⟨hw, rfl⟩) hS h
/-- An operation of a drawn region that yields in every world that meets S, taken first. -/
theorem take_yes {P : Program} {ops : Array Oper} {Q : Exit → Act → World → Prop} {md : Region.Mode} {S : World → Prop} {fuel : Nat} {listed : Array Bool} {a : Act} {w : World} (i : Nat) (d : Option Tmp) (v : Value) {oi : Oper} (hi : ops[i]? = some oi) (hd : oi.dst = d)
    (hs : Region.noSelect ops = true) (hf : Region.free md ops listed i = true) (hr : (Region.ready md ops listed).contains i = true)
    (hQ : ∀ c a w, Q (.panic c) (a.put d v) w → Q (.panic c) a w) (hw : Region.wanted oi (yielded ops a.tmps) = true) (hy : ∀ w, S w → (execOp a.eval oi).run P w = .ok (.value v) w) (hS : S w)
    (h : wpAnyH P md ops Q S fuel (listed.setIfInBounds i true) (a.put d v) w) : wpAnyH P md ops Q S (fuel + 1) listed a w := by
  subst hd
  exact wpAnyH_take hi hs hf hr hQ (Or.inl ⟨hw, hy⟩) hS h

set_option maxRecDepth 100000 in
set_option maxHeartbeats 1500000 in
theorem imageImports_any (a : Option Addr) (n c : Nat) (zs : List Int) (k0 k1 : Int) (w : World) (hT : Tab w) (hX : IsRow .u8 w a n c zs)
    (_hk0 : 0 ≤ k0 ∧ k0 ≤ 18446744073709551615) (_hk1 : 0 ≤ k1 ∧ k1 ≤ 18446744073709551615) (_hr : n ≤ 140737488351232) :
    Calls Tryz.prog 4 #[.slice a n c, .agg #[.int .u64 k0, .int .u64 k1]] w fun e w' => e = .returned (.bool true) ∧ Below w.heap.size w w' := by
  have hw0 := hT.1
  obtain ⟨hv, hB, hlen⟩ := hX.has
  have hle := hX.len_le
  clear hX
  generalize zs.take n = xs at *
  have HL : Hid (xs.length = n) := hlen
  clear hlen
  have hlives := fun (W : World) (hW : Below w.heap.size w W) => lives7_any W (hT.below hW hw0)
  have hbox := heap_alloc_new w (.cells #[.int .u64 k0, .int .u64 k1] 24)
  have hBA : Below w.heap.size w (w.alloc (.cells #[.int .u64 k0, .int .u64 k1] 24)) := (Below.refl _ _).alloc (Nat.le_refl _) _
  have hz0 : (w.alloc (.cells #[.int .u64 k0, .int .u64 k1] 24)).heap.size = w.heap.size + 1 := by simp
  go_enter Tryz.func4, Tryz.ntmps4
  by_cases hbig : 10000 < n
  · go_wp2_with fail
    generalize w.alloc (.cells #[.int .u64 k0, .int .u64 k1] 24) = W0 at *
    refine (hlives W0 hBA).mono ?_
    rintro e w4 ⟨rfl, hb4⟩
    go_wp2
    go_ret
    exact ⟨rfl, hBA.trans (hb4.mono hBA.size)⟩
  · have Hsm : Hid (xs.length ≤ 10000) := by rw [Hid, HL.out]; omega
    have Hsz : Hid (∀ p ∈ (rdE xs).1, p.1.size ≤ 131072 ∧ p.2.size ≤ 131072) := fun p hp => by
      have h1 := rdN_size (rd0 xs) (rdC xs) p hp
      have h2 := rd0_length xs
      have h3 := Hsm.out
      omega
    have HB : Hid (IsB xs) := hB
    have hld := lend_any (.slice a n c) xs _ (hv.below hBA (Nat.le_refl _)) (by have := Hsm.out; omega)
    go_wp2_with fail
    generalize w.alloc (.cells #[.int .u64 k0, .int .u64 k1] 24) = W0 at *
    refine hld.mono ?_
    rintro e w1 ⟨v1, v2, rfl, ho1, ho2, hb1⟩
    have hz1 : w.heap.size + 1 ≤ w1.heap.size := by have := hb1.size; omega
    have hB1 : Below w.heap.size w w1 := hBA.trans (hb1.mono (by omega))
    have hbx1 := (hb1.block w.heap.size (by omega)).trans hbox
    obtain ⟨c0, c1⟩ := key2 hbx1
    have him := import_any v2 xs k0 k1 w1 (hT.below hB1 hw0) ho2 HB.out (by have := Hsm.out; omega) (fun _ => Hsz.out)
    clear hld hbox hb1 hBA hz0
    go_wp2_with fail
    refine him.mono ?_
    rintro e w2 (⟨hok, rfl, hb2⟩ | ⟨hok, b, rfl, hD2⟩)
    · have hz2 := hb2.size
      have hB2 : Below w.heap.size w w2 := hB1.trans (hb2.mono (by omega))
      obtain ⟨c2, c3⟩ := key2 ((hb2.block w.heap.size (by omega)).trans hbx1)
      have hri := rimport_any (.slice a n c) xs k0 k1 w2 (by omega) (hv.below hB2 (Nat.le_refl _)) HB.out (by have := Hsm.out; omega) (fun _ => Hsz.out)
      have ho3 := ho1.below hb2 (Nat.le_refl _)
      clear him c0 c1 hbx1 hb2
      go_wp2_with fail
      refine hri.mono ?_
      rintro e w3 hcase
      replace hcase := hcase.resolve_right (fun h => by rw [hok] at h; cases h.1)
      obtain ⟨-, rfl, hb3⟩ := hcase
      have hz3 := hb3.size
      have hB3 : Below w.heap.size w w3 := hB2.trans (hb3.mono (by omega))
      have hkp := kept_any v1 (.slice a n c) xs w3 (ho3.below hb3 (Nat.le_refl _)) (hv.below hB3 (Nat.le_refl _)) (by have := Hsm.out; omega)
      clear hri c2 c3 hb3
      go_wp2_with fail
      refine hkp.mono ?_
      rintro e w4 ⟨rfl, hb4⟩
      have hB4 : Below w.heap.size w w4 := hB3.trans (hb4.mono hB3.size)
      have s0 : Below w.heap.size w w4.drew := hB4.drew
      clear hkp
      go_wp2_with fail
      refine wp_region_held_drew (S := fun w' => Below w.heap.size w w') (by kernel_rfl) s0 (fun hS => ?_)
      refine take_yes 0 (some 51) (.pointer none) rfl rfl (by kernel_rfl) (by kernel_rfl) (by kernel_rfl) (fun _ _ _ h => h) (by rfl) (by intro W hW; go_simp) hS ?_
      simp only [Act.put, List.setIfInBounds_toArray, List.set_cons_zero, List.set_cons_succ]
      refine take_yes 1 (some 52) (.bool true) rfl rfl (by kernel_rfl) (by kernel_rfl) (by kernel_rfl) (fun _ _ _ h => h) (by rfl) (by intro W hW; go_simp) hS ?_
      simp only [Act.put, List.setIfInBounds_toArray, List.set_cons_zero, List.set_cons_succ]
      refine take_yes 2 (some 53) (.bool true) rfl rfl (by kernel_rfl) (by kernel_rfl) (by kernel_rfl) (fun _ _ _ h => h) (by rfl) (by intro W hW; go_simp) hS ?_
      simp only [Act.put, List.setIfInBounds_toArray, List.set_cons_zero, List.set_cons_succ]
      refine take_no 3 (some 54) rfl rfl (by kernel_rfl) (by kernel_rfl) (by kernel_rfl) (fun _ _ _ h => h) (by rfl) hS ?_
      simp only [Act.put, List.setIfInBounds_toArray, List.set_cons_zero, List.set_cons_succ]
      refine take_no 4 (some 55) rfl rfl (by kernel_rfl) (by kernel_rfl) (by kernel_rfl) (fun _ _ _ h => h) (by rfl) hS ?_
      simp only [Act.put, List.setIfInBounds_toArray, List.set_cons_zero, List.set_cons_succ]
      refine take_no 5 (some 56) rfl rfl (by kernel_rfl) (by kernel_rfl) (by kernel_rfl) (fun _ _ _ h => h) (by rfl) hS ?_
      simp only [Act.put, List.setIfInBounds_toArray, List.set_cons_zero, List.set_cons_succ]
      refine take_no 6 (some 57) rfl rfl (by kernel_rfl) (by kernel_rfl) (by kernel_rfl) (fun _ _ _ h => h) (by rfl) hS ?_
      simp only [Act.put, List.setIfInBounds_toArray, List.set_cons_zero, List.set_cons_succ]
      refine take_no 7 (some 58) rfl rfl (by kernel_rfl) (by kernel_rfl) (by kernel_rfl) (fun _ _ _ h => h) (by rfl) hS ?_
      simp only [Act.put, List.setIfInBounds_toArray, List.set_cons_zero, List.set_cons_succ]
      refine take_no 8 (some 59) rfl rfl (by kernel_rfl) (by kernel_rfl) (by kernel_rfl) (fun _ _ _ h => h) (by rfl) hS ?_
      simp only [Act.put, List.setIfInBounds_toArray, List.set_cons_zero, List.set_cons_succ]
      refine take_no 9 (some 60) rfl rfl (by kernel_rfl) (by kernel_rfl) (by kernel_rfl) (fun _ _ _ h => h) (by rfl) hS ?_
      simp only [Act.put, List.setIfInBounds_toArray, List.set_cons_zero, List.set_cons_succ]
      refine take_no 10 (some 61) rfl rfl (by kernel_rfl) (by kernel_rfl) (by kernel_rfl) (fun _ _ _ h => h) (by rfl) hS ?_
      simp only [Act.put, List.setIfInBounds_toArray, List.set_cons_zero, List.set_cons_succ]
      refine take_no 11 (some 62) rfl rfl (by kernel_rfl) (by kernel_rfl) (by kernel_rfl) (fun _ _ _ h => h) (by rfl) hS ?_
      simp only [Act.put, List.setIfInBounds_toArray, List.set_cons_zero, List.set_cons_succ]
      refine take_no 12 (some 63) rfl rfl (by kernel_rfl) (by kernel_rfl) (by kernel_rfl) (fun _ _ _ h => h) (by rfl) hS ?_
      simp only [Act.put, List.setIfInBounds_toArray, List.set_cons_zero, List.set_cons_succ]
      refine take_no 13 (some 64) rfl rfl (by kernel_rfl) (by kernel_rfl) (by kernel_rfl) (fun _ _ _ h => h) (by rfl) hS ?_
      simp only [Act.put, List.setIfInBounds_toArray, List.set_cons_zero, List.set_cons_succ]
      refine take_no 14 (some 65) rfl rfl (by kernel_rfl) (by kernel_rfl) (by kernel_rfl) (fun _ _ _ h => h) (by rfl) hS ?_
      simp only [Act.put, List.setIfInBounds_toArray, List.set_cons_zero, List.set_cons_succ]
      refine take_no 15 (some 66) rfl rfl (by kernel_rfl) (by kernel_rfl) (by kernel_rfl) (fun _ _ _ h => h) (by rfl) hS ?_
      simp only [Act.put, List.setIfInBounds_toArray, List.set_cons_zero, List.set_cons_succ]
      refine take_no 16 (some 67) rfl rfl (by kernel_rfl) (by kernel_rfl) (by kernel_rfl) (fun _ _ _ h => h) (by rfl) hS ?_
      simp only [Act.put, List.setIfInBounds_toArray, List.set_cons_zero, List.set_cons_succ]
      refine take_yes 17 (some 68) (.bool true) rfl rfl (by kernel_rfl) (by kernel_rfl) (by kernel_rfl) (fun _ _ _ h => h) (by rfl) (by intro W hW; go_simp) hS ?_
      simp only [Act.put, List.setIfInBounds_toArray, List.set_cons_zero, List.set_cons_succ]
      refine take_yes 18 (some 69) (.bool true) rfl rfl (by kernel_rfl) (by kernel_rfl) (by kernel_rfl) (fun _ _ _ h => h) (by rfl) (by intro W hW; go_simp) hS ?_
      simp only [Act.put, List.setIfInBounds_toArray, List.set_cons_zero, List.set_cons_succ]
      refine wpAnyH_ready (rs := [19]) (by kernel_rfl) (by simp) ?_
      refine AllReadyH.cons rfl (fun K hK => ?_) AllReadyH.nil
      go_simp
      refine Calls.mono (hlives _ hS) ?_
      rintro e w5 ⟨rfl, hb5⟩
      go_simp
      refine hK.out _ _ (keepJ hb5 hS) (fun hS5 => ?_)
      clear hK K
      try simp only [Act.put, List.setIfInBounds_toArray, List.set_cons_zero, List.set_cons_succ]
      refine take_yes 20 (some 71) (.bool true) rfl rfl (by kernel_rfl) (by kernel_rfl) (by kernel_rfl) (fun _ _ _ h => h) (by rfl) (by intro W hW; go_simp) hS5 ?_
      simp only [Act.put, List.setIfInBounds_toArray, List.set_cons_zero, List.set_cons_succ]
      refine take_yes 21 (some 4) (.bool true) rfl rfl (by kernel_rfl) (by kernel_rfl) (by kernel_rfl) (fun _ _ _ h => h) (by rfl) (by intro W hW; go_simp) hS5 ?_
      simp only [Act.put, List.setIfInBounds_toArray, List.set_cons_zero, List.set_cons_succ]
      refine wpAnyH_done (by kernel_rfl) ?_ _
      go_wp2
      go_ret
      exact ⟨rfl, hS5⟩
    · have hb2 := hD2.bel
      have hz2 := hb2.size
      have hB2 : Below w.heap.size w w2 := hB1.trans (hb2.mono (by omega))
      obtain ⟨c2, c3⟩ := key2 ((hb2.block w.heap.size (by omega)).trans hbx1)
      have hri := rimport_any (.slice a n c) xs k0 k1 w2 (by omega) (hv.below hB2 (Nat.le_refl _)) HB.out (by have := Hsm.out; omega) (fun _ => Hsz.out)
      have ho3 := ho1.below hb2 (Nat.le_refl _)
      clear him c0 c1 hbx1
      go_wp2_with fail
      refine hri.mono ?_
      rintro e w3 hcase
      replace hcase := hcase.resolve_left (fun h => by rw [hok] at h; cases h.1)
      obtain ⟨-, r, rfl, hE3⟩ := hcase
      have hb3 := hE3.bel
      have hz3 := hb3.size
      have hB3 : Below w.heap.size w w3 := hB2.trans (hb3.mono (by omega))
      have hkp := kept_any v1 (.slice a n c) xs w3 (ho3.below hb3 (Nat.le_refl _)) (hv.below hB3 (Nat.le_refl _)) (by have := Hsm.out; omega)
      have hD3 := hD2.below hb3
      have hml := rdE_len xs
      generalize (rdE xs).1.length = L at *
      generalize putL (SM.empty k0 k1 (.string ⟨#[]⟩) (needI (L : Int)).toNat) (rdE xs).1 = M at *
      clear hri c2 c3 hb3 hD2
      go_wp2_with fail
      refine hkp.mono ?_
      rintro e w4 ⟨rfl, hb4⟩
      have hB4 : Below w.heap.size w w4 := hB3.trans (hb4.mono hB3.size)
      obtain ⟨⟨bw, bs, hl4, -, -, -⟩, hF, -⟩ := hD3.below hb4
      obtain ⟨⟨rw', rs, hm4, -, -, -⟩, -, -⟩ := hE3.below hb4
      have hI := hF.inv
      have hgr := good_range hI.fit.good
      have Hws : Hid (M.ws.length ≤ 1099511627776) := by show _ ≤ _; omega
      have Hln : Hid (M.img.length ≤ 2000) := by rw [Hid, img_len hI]; have := hF.n; omega
      obtain ⟨dw, ds, _, _, k2, _, _, _, _, _⟩ := hm4.cells
      have hcl := hm4.lt.1
      have s0 : w4.drew.cell? ⟨r, 2, none⟩ = some (.slice (some ⟨rw', 0, none⟩) M.ws.length dw) ∧ Below w4.heap.size w4 w4.drew := ⟨k2, ⟨rfl, rfl, rfl, Nat.le_refl _, fun _ _ => rfl⟩⟩
      have hbel : ∀ W, Below w4.heap.size w4 W → Below w.heap.size w W := fun W hW => hB4.trans (hW.mono hB4.size)
      have hPr : ∀ W, Below w4.heap.size w4 W → Calls Tryz.prog 16 #[.pointer (some ⟨b, 0, none⟩)] W fun e w' => ∃ v, e = .returned v ∧ OwnsP w' W.heap.size v M.img ∧ Below W.heap.size W w' := fun W hW => pairs_any b bw bs M W (hT.below (hbel W hW) hw0) (hl4.below hW (Nat.le_refl _)) hI
      have hPd : ∀ W, Below w4.heap.size w4 W → Calls Tryz.prog 14 #[.pointer (some ⟨r, 0, none⟩)] W fun e w' => ∃ v, e = .returned v ∧ OwnsP w' W.heap.size v M.img ∧ Below W.heap.size W w' := fun W hW => rpairs_any r rw' rs M W (hm4.below hW (Nat.le_refl _)) hI
      have hSa : ∀ W v x, HasP W v M.img → HasP W x M.img → Calls Tryz.prog 15 #[v, x] W fun e w' => e = .returned (.bool true) ∧ Below W.heap.size W w' := fun W v x hv hx => by
        have h := rsame_any v x _ _ W hv hx (by have := Hln.out; omega) (by have := Hln.out; omega)
        rw [decide_eq_true rfl] at h
        exact h
      have hCo : ∀ W, Below w4.heap.size w4 W → Calls Tryz.prog 27 #[.pointer (some ⟨b, 0, none⟩)] W fun e w' => ∃ g cap, e = .returned (.slice (some ⟨g, 0, none⟩) M.ws.length cap) ∧ HasW w' (.slice (some ⟨g, 0, none⟩) M.ws.length cap) M.ws ∧ Below W.heap.size W w' := fun W hW => by
        refine (controls_any_s b bw bs M W (hl4.below hW (Nat.le_refl _)) hI.fit).mono ?_
        rintro e w' ⟨g, cap, h1, -, h3, h4⟩
        exact ⟨g, cap, h1, hasW_owns h3, h4⟩
      have hWd : ∀ W v, Below w4.heap.size w4 W → HasW W v M.ws → Calls Tryz.prog 26 #[v, .slice (some ⟨rw', 0, none⟩) M.ws.length dw] W fun e w' => e = .returned (.bool true) ∧ Below W.heap.size W w' := fun W v hW hv => by
        have h := words_any v _ M.ws M.ws W hv ((words_at hm4 k2).below hW (Nat.le_refl _)) Hws.out Hws.out
        rw [decide_eq_true rfl] at h
        exact h
      have hLv : ∀ W, Below w4.heap.size w4 W → Calls Tryz.prog 9 #[] W fun e w' => e = .returned (.bool true) ∧ Below W.heap.size W w' := fun W hW => hlives W (hbel W hW)
      clear hkp hD3 hE3 hl4 hF hI hgr ho3 ho1 ho2 hv hlives hB hok
      replace hm4 : Hid (Lies 63 76 w4 r rw' rs M) := hm4
      go_wp2_with fail
      clear k2
      go_region_held3 (fun w' => w'.cell? ⟨r, 2, none⟩ = some (.slice (some ⟨rw', 0, none⟩) M.ws.length dw) ∧ Below w4.heap.size w4 w')
        (first | exact s0 | assumption | exact keepI hcl (by assumption) (by assumption))
        (first
          | (go_at_call 16; refine Calls.mono (hPr _ (heldI (by assumption))) ?_; rintro e w7 ⟨v7, rfl, ho7, hb7⟩)
          | (go_at_call 14; refine Calls.mono (hPd _ (heldI (by assumption))) ?_; rintro e w8 ⟨v8, rfl, ho8, hb8⟩; replace ho7 := (ho7.below hb8 (Nat.le_refl _)).has; replace ho8 := ho8.has)
          | (go_at_call 15; refine Calls.mono (hSa _ _ _ ho7 ho8) ?_; rintro e w9 ⟨rfl, hb9⟩; clear ho7 ho8)
          | (go_at_call 27; refine Calls.mono (hCo _ (heldI (by assumption))) ?_; rintro e w10 ⟨g10, c10, rfl, ho10, hb10⟩)
          | (go_at_call 26; refine Calls.mono (hWd _ _ (heldI (by assumption)) ho10) ?_; rintro e w11 ⟨rfl, hb11⟩)
          | (go_at_call 9; refine Calls.mono (hLv _ (heldI (by assumption))) ?_; rintro e w12 ⟨rfl, hb12⟩))
      all_goals
        go_wp2
        go_ret
        exact ⟨rfl, hbel _ (heldI (by assumption))⟩
end Go.Proofs.YthlghokgknkpaaaGreatDoor
