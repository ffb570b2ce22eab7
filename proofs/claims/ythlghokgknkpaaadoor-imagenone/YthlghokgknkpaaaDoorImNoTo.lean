import Derived.Test.YthlghokgknkpaaaDoorHRowPTo
import Derived.Deep.RegionHeld3
/-
  The walk of corbellaw07.lives: the document's example.
-/
namespace Go.Proofs.YthlghokgknkpaaaDoor
open Go.RowKit Go.Shelf Go.Lib

set_option maxRecDepth 100000 in
set_option maxHeartbeats 4000000 in
theorem lives7_any (w : World) (hT : Tab w) : Calls Tryd.prog 8 #[] w fun e w' => e = .returned (.bool true) ∧ Below w.heap.size w w' := by
  have hw0 := hT.1
  have hnew := new_any_s 0 0 0 w (by omega) (by omega) (by decide)
  rw [show (needI 0).toNat = 1 by decide] at hnew
  have heq : ∀ (a b : ByteArray × ByteArray) (W : World), Sem.run Tryd.prog (binOp .eql 33 (.agg #[.string a.1, .string a.2]) (.agg #[.string b.1, .string b.2])) W = .ok (.bool (decide (a = b))) W := eqlP.1
  have hgd : ∀ (op : BinOp) (o1 o2 : Operand) (a b : ByteArray × ByteArray) (W : World), Sem.run Tryd.prog (eqGuard op 33 o1 o2 (.agg #[.string a.1, .string a.2]) (.agg #[.string b.1, .string b.2])) W = .ok () W := eqlP.2
  have heq1 := fun W => heq (⟨#[97]⟩, ⟨#[49]⟩) (⟨#[97]⟩, ⟨#[49]⟩) W
  have hgd1 := fun op o1 o2 W => hgd op o1 o2 (⟨#[97]⟩, ⟨#[49]⟩) (⟨#[97]⟩, ⟨#[49]⟩) W
  rw [decide_eq_true rfl] at heq1
  dsimp only at heq1 hgd1
  clear heq hgd
  go_enter Tryd.func8, Tryd.ntmps8
  go_wp2_with fail
  refine hnew.mono ?_
  rintro e w1 ⟨b, bw, bs, rfl, hl1, g1, g2, g3, hb1⟩
  have h1 := one7_new (Below.refl _ w) hl1 (by decide) g1 g2 g3 hb1
  have hp1 := h1.put hT (by omega) (⟨#[98]⟩, ⟨#[50]⟩) (by exact ⟨by show 1 ≤ _; omega, by show 1 ≤ _; omega⟩)
  clear hnew hl1 g1 g2 g3 hb1
  go_wp2_with fail
  refine hp1.mono ?_
  rintro e w2 ⟨⟨x1, y1, rfl⟩, h2, -⟩
  have hp2 := h2.put hT (by omega) (⟨#[97]⟩, ⟨#[49]⟩) (by exact ⟨by show 1 ≤ _; omega, by show 1 ≤ _; omega⟩)
  clear hp1
  go_wp2_with fail
  refine hp2.mono ?_
  rintro e w3 ⟨⟨x2, y2, rfl⟩, h3, -⟩
  clear hp2 h1 h2
  have hr := h3.range hT (by omega) ⟨#[97]⟩ ⟨#[]⟩ 1 (by omega)
  rw [live_put, live_cut] at hr
  go_wp2_with fail
  refine hr.mono ?_
  rintro e w4 ⟨v4, rfl, ho4, hb4⟩
  have h4 := h3.below hb4
  have hx := h4.exp hT (by omega)
  rw [live_put, live_exp] at hx
  obtain ⟨p4, c4, rfl, -, -, -⟩ := id ho4.has
  clear hr h3
  go_wp2_with fail
  refine hx.mono ?_
  rintro e w5 ⟨v5, rfl, ho5, hb5⟩
  have h5 := h4.below hb5
  have ho45 := ho4.below hb5 (Nat.le_refl _)
  clear hx h4 ho4
  have hlit := Has.lit w5 [2, 1, 97, 1, 49, 1, 98, 1, 50] 5
  have hba : Below w5.heap.size w5 (w5.alloc (.cells ([2, 1, 97, 1, 49, 1, 98, 1, 50].map (Value.int .u8)).toArray 5)) := (Below.refl _ _).alloc (Nat.le_refl _) _
  have hsm := same_any v5 _ _ _ _ (ho5.has.below hba (Nat.le_refl _)) hlit live_isB live_isB
  have h6 := h5.below hba
  have ho46 := ho45.below hba (Nat.le_refl _)
  simp only [List.length_cons, List.length_nil, Nat.reduceAdd, List.map_cons, List.map_nil] at hsm h6 hba ho46
  rw [show (([2, 1, 97, 1, 49, 1, 98, 1, 50] : List Int) == [2, 1, 97, 1, 49, 1, 98, 1, 50]) = true by decide] at hsm
  clear hlit ho5 ho45
  go_wp2_with fail
  generalize w5.alloc _ = w6 at *
  refine same_mono hsm ?_
  obtain ⟨bb, oo, rfl, hbb, hcc, -, c1, c2⟩ := ho46.has.at (j := 0) (by simp)
  simp only [Nat.zero_mul, Nat.add_zero, List.getD_cons_zero] at c1 c2
  clear hsm ho46
  obtain ⟨⟨bw6, bs6, hl6, -⟩, hf6, -⟩ := id h6
  have hcp := copy_any_s b bw6 bs6 _ w6 hl6 hf6.inv.fit hf6.inv.typed
  go_wp2_with fail
  refine hcp.mono ?_
  rintro e w7 ⟨d, dw, ds, rfl, hl7, f1, f2, f3, hb7⟩
  have h7 := h6.more hl7 hf6 f1 f2 f3 hb7
  have hsame := h7.one.same h7.swap.one hT (by omega) (by omega)
  rw [decide_eq_true rfl] at hsame
  clear hcp hl6 hf6 hl7 f1 f2 f3 c1 c2
  go_wp2_with fail
  refine hsame.mono ?_
  rintro e w8 ⟨rfl, hb8⟩
  go_wp2
  go_ret
  exact ⟨rfl, h7.bel.trans (hb8.mono h7.bel.size)⟩
end Go.Proofs.YthlghokgknkpaaaDoor

/-
  The walk of corbellaw07.ImageNone.
-/
namespace Go.Proofs.YthlghokgknkpaaaDoor
open Go.RowKit Go.Shelf Go.Lib

theorem exp_none : expB [] = [0] := by decide +kernel
theorem zero_isB : IsB [0] := fun x hx => by simp at hx; omega
theorem cut_nil (f u : ByteArray) (n : Int) : cutL [] f u n = [] := by simp [cutL]

theorem lit0 (W : World) : Has (W.alloc (.cells #[.int .u8 0] 5)) (.slice (some ⟨W.heap.size, 0, none⟩) 1 1) [0] := Has.lit W [0] _
/-- Three cells of a box, and all that is old, as it was. -/
theorem keepA {X w1 w2 : World} {s : Nat} {v0 v1 v2 : Value} (hs : s < X.heap.size) (hb : Below w1.heap.size w1 w2) (h : w1.cell? ⟨s, 0, none⟩ = some v0 ∧ w1.cell? ⟨s, 1, none⟩ = some v1 ∧ w1.cell? ⟨s, 2, none⟩ = some v2 ∧ Below X.heap.size X w1) :
    w2.cell? ⟨s, 0, none⟩ = some v0 ∧ w2.cell? ⟨s, 1, none⟩ = some v1 ∧ w2.cell? ⟨s, 2, none⟩ = some v2 ∧ Below X.heap.size X w2 := by
  obtain ⟨h1, h2, h3, h4⟩ := h
  have := h4.size
  exact ⟨(hb.cell (p := ⟨s, 0, none⟩) (by show s < _; omega)).trans h1, (hb.cell (p := ⟨s, 1, none⟩) (by show s < _; omega)).trans h2, (hb.cell (p := ⟨s, 2, none⟩) (by show s < _; omega)).trans h3, h4.trans (hb.mono h4.size)⟩
theorem allocA {X w1 : World} {s : Nat} {v0 v1 v2 : Value} (hs : s < X.heap.size) (o : Obj) (h : w1.cell? ⟨s, 0, none⟩ = some v0 ∧ w1.cell? ⟨s, 1, none⟩ = some v1 ∧ w1.cell? ⟨s, 2, none⟩ = some v2 ∧ Below X.heap.size X w1) :
    (w1.alloc o).cell? ⟨s, 0, none⟩ = some v0 ∧ (w1.alloc o).cell? ⟨s, 1, none⟩ = some v1 ∧ (w1.alloc o).cell? ⟨s, 2, none⟩ = some v2 ∧ Below X.heap.size X (w1.alloc o) := keepA hs ((Below.refl _ _).alloc (Nat.le_refl _) _) h
theorem heldA {a b c d : Prop} (h : a ∧ b ∧ c ∧ d) : d := h.2.2.2

set_option maxRecDepth 100000 in
set_option maxHeartbeats 4000000 in
theorem imageNone_any (f u : ByteArray) (n : Int) (w : World) (hT : Tab w) (hn : -9223372036854775808 ≤ n ∧ n ≤ 9223372036854775807) :
    Calls Tryd.prog 4 #[.agg #[.string f, .string u, .int .i64 n]] w fun e w' => e = .returned (.bool true) ∧ Below w.heap.size w w' := by
  have hw0 := hT.1
  have hbx : (w.alloc (.cells #[.string f, .string u, .int .i64 n] 27)).heap[w.heap.size]? = some (.cells #[.string f, .string u, .int .i64 n] 27 (0, 0)) := heap_alloc_new _ _
  have hB0 : Below w.heap.size w (w.alloc (.cells #[.string f, .string u, .int .i64 n] 27)) := (Below.refl _ _).alloc (Nat.le_refl _) _
  have hz0 : (w.alloc (.cells #[.string f, .string u, .int .i64 n] 27)).heap.size = w.heap.size + 1 := by simp
  have hpn := pairs_none
  go_enter Tryd.func4, Tryd.ntmps4
  go_wp2_with fail
  generalize w.alloc (.cells #[.string f, .string u, .int .i64 n] 27) = W0 at *
  generalize hs : w.heap.size = s at *
  have hnew := new_any_s 0 0 0 W0 (by omega) (by omega) (by decide)
  rw [show (needI 0).toNat = 1 by decide] at hnew
  refine hnew.mono ?_
  rintro e w1 ⟨b, bw, bs, rfl, hl1, g1, g2, g3, hb1⟩
  have h1 := one7_new (w := w) (by rw [hs]; exact hB0) hl1 (by decide) g1 g2 g3 hb1
  have k1 := (hb1.block s (by omega)).trans hbx
  have hz1 := hb1.size
  clear hnew hl1 g1 g2 g3 hb1 hbx hB0
  have e0 : w1.cell? ⟨s, 0, none⟩ = some (.string f) := by unfold World.cell?; dsimp only; rw [k1]; rfl
  have e1 : w1.cell? ⟨s, 1, none⟩ = some (.string u) := by unfold World.cell?; dsimp only; rw [k1]; rfl
  have e2 : w1.cell? ⟨s, 2, none⟩ = some (.int .i64 n) := by unfold World.cell?; dsimp only; rw [k1]; rfl
  have s0 : w1.drew.cell? ⟨s, 0, none⟩ = some (.string f) ∧ w1.drew.cell? ⟨s, 1, none⟩ = some (.string u) ∧ w1.drew.cell? ⟨s, 2, none⟩ = some (.int .i64 n) ∧ Below w1.heap.size w1 w1.drew := ⟨e0, e1, e2, ⟨rfl, rfl, rfl, Nat.le_refl _, fun _ _ => rfl⟩⟩
  have hsl : s < w1.heap.size := by omega
  have hR := fun W => range_of none [] f u n W (hpn W) Rise.nil (by simp) hn
  rw [cut_nil] at hR
  have hE := fun W => export_of none [] W (hpn W) ⟨by simp, fun _ h => by cases h⟩
  rw [exp_none] at hE
  have hi : (SM.empty 0 0 (.string ⟨#[]⟩) 1).img = [] := List.eq_nil_of_length_eq_zero (by rw [img_len h1.fine.inv]; rfl)
  have hS : ∀ W, Below w1.heap.size w1 W → Calls Tryd.prog 17 #[.pointer none, .pointer (some ⟨b, 0, none⟩)] W fun e w' => e = .returned (.bool true) ∧ Below W.heap.size W w' := fun W hW => by
    have := same_of none (some ⟨b, 0, none⟩) [] _ W (hpn W) (fun V hV => ((h1.below hW).below hV).pairs hT) (by simp) (by rw [img_len h1.fine.inv]; have := h1.fine.n; omega)
    rw [hi, decide_eq_true rfl] at this
    exact this
  have hLv : ∀ W, Below w1.heap.size w1 W → Calls Tryd.prog 8 #[] W fun e w' => e = .returned (.bool true) ∧ Below W.heap.size W w' := fun W hW => lives7_any W (hT.below (h1.below hW).bel hT.1)
  have hSm : ∀ (v x : Value) (W : World), Has W v [0] → Has W x [0] → Calls Tryd.prog 15 #[v, x] W fun e w' => e = .returned (.bool true) ∧ w' = W := fun v x W hv hx => by
    have := same_any v x _ _ W hv hx zero_isB zero_isB
    rw [show (([0] : List Int) == [0]) = true by decide] at this
    exact this
  replace h1 : Hid (One7 w w1 b 0 (SM.empty 0 0 (.string ⟨#[]⟩) 1)) := h1
  clear k1 e0 e1 e2 hi
  go_wp2_with fail
  go_region_held3 (fun w' => w'.cell? ⟨s, 0, none⟩ = some (.string f) ∧ w'.cell? ⟨s, 1, none⟩ = some (.string u) ∧ w'.cell? ⟨s, 2, none⟩ = some (.int .i64 n) ∧ Below w1.heap.size w1 w')
    (first | exact s0 | assumption | exact keepA hsl (by assumption) (by assumption) | exact allocA hsl _ (by assumption) | exact keepA hsl (by assumption) (allocA hsl _ (by assumption)))
    (first
      | (go_at_call 10; refine Calls.mono (hpn _) ?_; rintro e w2 ⟨v2, rfl, ho2, hb2⟩; obtain ⟨p2, c2, rfl, -, -, -⟩ := id ho2.has; clear ho2)
      | (go_at_call 13; refine Calls.mono (hR _) ?_; rintro e w3 ⟨v3, rfl, ho3, hb3⟩; obtain ⟨p3, c3, rfl, -, -, -⟩ := id ho3.has; clear ho3)
      | (go_at_call 16; refine Calls.mono (hE _) ?_; rintro e w4 ⟨v4, rfl, ho4, hb4⟩; replace ho4 := ho4.has)
      | (go_at_call 15; refine same_mono (hSm _ _ _ (by first | exact ho4 | exact ho4.below ((Below.refl _ _).alloc (Nat.le_refl _) _) (Nat.le_refl _)) (by first | exact lit0 _ | exact (lit0 _).below hb4 (Nat.le_refl _))) ?_)
      | (go_at_call 17; refine Calls.mono (hS _ (heldA (by assumption))) ?_; rintro e w6 ⟨rfl, hb6⟩)
      | (go_at_call 8; refine Calls.mono (hLv _ (heldA (by assumption))) ?_; rintro e w7 ⟨rfl, hb7⟩))
  all_goals
    go_wp2
    go_ret
    exact ⟨rfl, (h1.out.below (heldA (by assumption))).bel⟩
end Go.Proofs.YthlghokgknkpaaaDoor
