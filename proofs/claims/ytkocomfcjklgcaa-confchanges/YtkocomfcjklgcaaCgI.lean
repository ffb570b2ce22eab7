import Derived.Test.YtkocomfcjklgcaaCgHTo
namespace Go.Proofs.Ytkocomfcjklgcaa
open Go.RowKit Go.Shelf

theorem rhas15_any (v : Value) (xs : List Int) (x : Int) (w : World) (h : HasI w v xs) (hl : xs.length ≤ 100000) :
    Calls Try.prog 24 #[v, .int .i64 x] w fun e w' => e = .returned (.bool (hasI10 xs x)) ∧ Below w.heap.size w w' := by
  refine (rhas_any v xs x w h hl).mono ?_
  rintro e w' ⟨rfl, k, rfl⟩
  refine ⟨?_, below_drew14 (Below.refl _ _)⟩
  rw [show hasI10 xs x = xs.contains x by rw [Bool.eq_iff_iff, hasI_iff15, List.contains_iff_mem]]
def pick15 (c : Conf10) (k n : Int) (a l one : Bool) : Conf10 × Nat :=
  if k ≤ 2 ∧ (a = true ∨ l = true) then (noF10, 5)
  else if k = 1 then (⟨with15 c.vs n, without15 c.ls 0⟩, 0)
  else if k = 2 then (⟨without15 c.vs 0, with15 c.ls n⟩, 0)
  else if k = 3 ∧ l = false ∨ k = 4 ∧ a = false ∧ l = false then (noF10, 4)
  else if k = 3 then (⟨with15 c.vs n, without15 c.ls n⟩, 0)
  else if a = true ∧ one = true then (noF10, 2)
  else (⟨without15 c.vs n, without15 c.ls n⟩, 0)
theorem change_pick15 {c : Conf10} {k n : Int} (h : ¬ (goodF10 c = false ∨ k < 1 ∨ 4 < k ∨ n < 1 ∨ 9 < n)) : change15 c k n = pick15 c k n (hasI10 c.vs n) (hasI10 c.ls n) (decide (c.vs.length = 1)) := by
  have e1 : (hasI10 c.vs n = true) = (n ∈ c.vs) := propext hasI_iff15
  have e2 : (hasI10 c.ls n = true) = (n ∈ c.ls) := propext hasI_iff15
  have e3 : (hasI10 c.vs n = false) = (n ∉ c.vs) := by rw [← e1]; simp
  have e4 : (hasI10 c.ls n = false) = (n ∉ c.ls) := by rw [← e2]; simp
  have e5 : (decide (c.vs.length = 1) = true) = (c.vs.length = 1) := decide_eq_true_eq
  unfold change15 pick15
  rw [if_neg h]
  simp only [e1, e2, e3, e4, e5]
theorem end15 {w w1 : World} (hr3 : w1.heap[w.heap.size + 1]? = some (.cells #[.slice none 0 0, .slice none 0 0] 24 (0, 0))) (hB3 : Below w.heap.size w w1) :
    ConfAt ((w1.setCell ⟨w.heap.size + 1, 0, none⟩ (.slice none 0 0)).setCell ⟨w.heap.size + 1, 1, none⟩ (.slice none 0 0)) (w.heap.size + 1) noFV ∧ Below w.heap.size w ((w1.setCell ⟨w.heap.size + 1, 0, none⟩ (.slice none 0 0)).setCell ⟨w.heap.size + 1, 1, none⟩ (.slice none 0 0)) :=
  ⟨set_block15 (set_block15 hr3 0 _ (by simp)) 1 _ (by simp), (hB3.setCell (p := ⟨w.heap.size + 1, 0, none⟩) (by show _ ≤ w.heap.size + 1; omega) (.slice none 0 0)).setCell (p := ⟨w.heap.size + 1, 1, none⟩) (by show _ ≤ w.heap.size + 1; omega) (.slice none 0 0)⟩

theorem keepD15 {w w1 w2 : World} {b : Nat} {x y : Value} (hb : Below w1.heap.size w1 w2) (h : w1.cell? ⟨b, 0, none⟩ = some x ∧ w1.cell? ⟨b, 1, none⟩ = some y ∧ w1.heap[b + 1]? = some (.cells #[.slice none 0 0, .slice none 0 0] 24 (0, 0)) ∧ Below w.heap.size w w1) : w2.cell? ⟨b, 0, none⟩ = some x ∧ w2.cell? ⟨b, 1, none⟩ = some y ∧ w2.heap[b + 1]? = some (.cells #[.slice none 0 0, .slice none 0 0] 24 (0, 0)) ∧ Below w.heap.size w w2 := by
  obtain ⟨h0, h1, hg, hw⟩ := h
  have hz := box_lt hg
  exact ⟨(hb.cell (p := ⟨b, 0, none⟩) (by show b < _; omega)).trans h0, (hb.cell (p := ⟨b, 1, none⟩) (by show b < _; omega)).trans h1, box_below hg hb, hw.trans (hb.mono hw.size)⟩
theorem heldD15 {w w1 : World} {b : Nat} {x y : Value} (h : w1.cell? ⟨b, 0, none⟩ = some x ∧ w1.cell? ⟨b, 1, none⟩ = some y ∧ w1.heap[b + 1]? = some (.cells #[.slice none 0 0, .slice none 0 0] 24 (0, 0)) ∧ Below w.heap.size w w1) : Below w.heap.size w w1 := h.2.2.2
theorem heldS15 {w w1 : World} {b : Nat} {x y : Value} (h : w1.cell? ⟨b, 0, none⟩ = some x ∧ w1.cell? ⟨b, 1, none⟩ = some y ∧ w1.heap[b + 1]? = some (.cells #[.slice none 0 0, .slice none 0 0] 24 (0, 0)) ∧ Below w.heap.size w w1) : w1.heap[b + 1]? = some (.cells #[.slice none 0 0, .slice none 0 0] 24 (0, 0)) ∧ Below w.heap.size w w1 := h.2.2
theorem drewC15 {w w1 : World} {b : Nat} {x y : Value} (h : w1.cell? ⟨b, 0, none⟩ = some x ∧ w1.cell? ⟨b, 1, none⟩ = some y ∧ w1.heap[b + 1]? = some (.cells #[.slice none 0 0, .slice none 0 0] 24 (0, 0)) ∧ Below w.heap.size w w1) : w1.drew.cell? ⟨b, 0, none⟩ = some x ∧ w1.drew.cell? ⟨b, 1, none⟩ = some y ∧ (∃ g h : Value, w1.drew.heap[b + 1]? = some (.cells #[g, h] 24 (0, 0))) ∧ Below w.heap.size w w1.drew :=
  ⟨h.1, h.2.1, ⟨_, _, h.2.2.1⟩, ⟨h.2.2.2.os, h.2.2.2.tape, h.2.2.2.output, h.2.2.2.size, h.2.2.2.block⟩⟩
theorem ltC15 {w w1 : World} {b : Nat} {x y : Value} (h : w1.cell? ⟨b, 0, none⟩ = some x ∧ w1.cell? ⟨b, 1, none⟩ = some y ∧ (∃ g h : Value, w1.heap[b + 1]? = some (.cells #[g, h] 24 (0, 0))) ∧ Below w.heap.size w w1) : b + 1 < w1.heap.size := by
  obtain ⟨_, _, ⟨_, _, hg⟩, _⟩ := h
  exact box_lt hg
theorem fin15 {w w4 w5 : World} {B n4 c4 n5 c5 : Nat} {p4 p5 : Option Addr} {V L : List Int} {g h : Value} (hlt : w.heap.size + 1 < B) (hO4 : OwnsI w4 B (.slice p4 n4 c4) V) (h4 : B ≤ w4.heap.size) (hb5 : Below w4.heap.size w4 w5) (hO5 : OwnsI w5 w4.heap.size (.slice p5 n5 c5) L)
    (hg5 : w5.heap[w.heap.size + 1]? = some (.cells #[g, h] 24 (0, 0))) (hB : Below w.heap.size w w5) (hG : Good15 ⟨V, L⟩) :
    ConfAt ((w5.setCell ⟨w.heap.size + 1, 0, none⟩ (.slice p4 n4 c4)).setCell ⟨w.heap.size + 1, 1, none⟩ (.slice p5 n5 c5)) (w.heap.size + 1) ⟨⟨p4, n4, c4⟩, ⟨p5, n5, c5⟩, ⟨V, L⟩⟩ ∧
      OwnsF15 ((w5.setCell ⟨w.heap.size + 1, 0, none⟩ (.slice p4 n4 c4)).setCell ⟨w.heap.size + 1, 1, none⟩ (.slice p5 n5 c5)) w.heap.size ⟨⟨p4, n4, c4⟩, ⟨p5, n5, c5⟩, ⟨V, L⟩⟩ ∧
      Below w.heap.size w ((w5.setCell ⟨w.heap.size + 1, 0, none⟩ (.slice p4 n4 c4)).setCell ⟨w.heap.size + 1, 1, none⟩ (.slice p5 n5 c5)) := by
  have hO9 : OwnsF15 w5 (w.heap.size + 2) ⟨⟨p4, n4, c4⟩, ⟨p5, n5, c5⟩, ⟨V, L⟩⟩ := ⟨(hO4.below hb5 (Nat.le_refl _)).mono (by omega), hO5.mono (by omega), hG.vs.inn, hG.ls.inn, Nat.le_trans hG.vs.len (by decide), Nat.le_trans hG.ls.len (by decide)⟩
  exact ⟨set_block15 (set_block15 hg5 0 _ (by simp)) 1 _ (by simp), ((hO9.cell (b := w.heap.size + 1) (by omega) 0 (.slice p4 n4 c4)).cell (b := w.heap.size + 1) (by omega) 1 (.slice p5 n5 c5)).mono (B' := w.heap.size) (by omega), (hB.setCell (p := ⟨w.heap.size + 1, 0, none⟩) (by show _ ≤ w.heap.size + 1; omega) (.slice p4 n4 c4)).setCell (p := ⟨w.heap.size + 1, 1, none⟩) (by show _ ≤ w.heap.size + 1; omega) (.slice p5 n5 c5)⟩

set_option maxRecDepth 100000 in
set_option maxHeartbeats 4000000 in
theorem rchange_any (x : ConfV) (k n : Int) (w : World) (h : FitsF w x) (lu : x.f.vs.length ≤ 50000) (lv : x.f.ls.length ≤ 50000) :
    Calls Try.prog 11 #[.agg x.arr, .int .i64 k, .int .i64 n] w fun e w' => ∃ d : ConfV, e = .returned (.tuple #[.agg d.arr, .int .i64 ((change15 x.f k n).2 : Nat)]) ∧ d.f = (change15 x.f k n).1 ∧ OwnsF15 w' w.heap.size d ∧ Below w.heap.size w w' := by
  have hb1 : Below w.heap.size w (w.alloc (.cells x.arr 24)) := (Below.refl _ _).alloc (Nat.le_refl _) _
  have hx1 : ConfAt (w.alloc (.cells x.arr 24)) w.heap.size x := heap_alloc_new w _
  have hz1 : (w.alloc (.cells x.arr 24)).heap.size = w.heap.size + 1 := by simp
  have hb2 := (Below.refl _ (w.alloc (.cells x.arr 24))).alloc (Nat.le_refl _) (.cells noFV.arr 24)
  have hr2 : ConfAt ((w.alloc (.cells x.arr 24)).alloc (.cells noFV.arr 24)) (w.heap.size + 1) noFV := by rw [← hz1]; exact heap_alloc_new _ _
  have hx2 : ConfAt _ w.heap.size x := box_below hx1 hb2
  have hB := hb1.trans (hb2.mono hb1.size)
  have kg := rgoodConf_any x _ (h.below hB)
  by_cases h0 : goodF10 x.f = false ∨ k < 1 ∨ 4 < k ∨ n < 1 ∨ 9 < n
  · have hc : change15 x.f k n = (noF10, 2) := by unfold change15; rw [if_pos h0]
    rw [hc]
    clear hc hb1 hb2 hx1 h
    generalize goodF10 x.f = g at *
    obtain ⟨⟨p, u, c⟩, ⟨q, v, d⟩, f⟩ := x
    unfold ConfV.arr noFV nilS10 at *
    dsimp only at *
    have hcase : g = false ∨ (g = true ∧ k < 1) ∨ (g = true ∧ ¬ k < 1 ∧ 4 < k) ∨ (g = true ∧ ¬ k < 1 ∧ ¬ 4 < k ∧ n < 1) ∨ (g = true ∧ ¬ k < 1 ∧ ¬ 4 < k ∧ ¬ n < 1 ∧ 9 < n) := by
      cases g with
      | false => exact .inl rfl
      | true =>
        have := h0.resolve_left (by decide)
        simp only [Bool.true_eq_false, true_and, false_or]
        omega
    clear h0
    rcases hcase with rfl | ⟨rfl, e1⟩ | ⟨rfl, e1, e2⟩ | ⟨rfl, e1, e2, e3⟩ | ⟨rfl, e1, e2, e3, e4⟩
    all_goals
      go_enter Try.func11, Try.ntmps11
      go_wp2_with fail
      refine kg.mono ?_
      rintro e w1 ⟨rfl, hb3⟩
      have hB3 := hB.trans (hb3.mono hB.size)
      have hr3 : w1.heap[w.heap.size + 1]? = some (.cells #[.slice none 0 0, .slice none 0 0] 24 (0, 0)) := box_below hr2 hb3
      have cr0 := box_cell hr3 0
      have cr1 := box_cell hr3 1
      have fr0 := frozen15 hr3 0
      have fr1 := frozen15 hr3 1
      have hlt2 := box_lt hr3
      clear kg hb3 hx2 hr2 hB
      obtain ⟨hF, hBz⟩ := end15 hr3 hB3
      go_wp2
      exact bodyPost_ret (ret15 rfl _ _ (w.heap.size + 1) _ _ _ _ rfl hF Try.underlying24 rfl (by kernel_rfl)) rfl ⟨noFV, rfl, rfl, OwnsF15.nil _ _, hBz⟩
  · have hcp := change_pick15 h0
    have e1 : ¬ k < 1 := fun h => h0 (.inr (.inl h))
    have e2 : ¬ 4 < k := fun h => h0 (.inr (.inr (.inl h)))
    have e3 : ¬ n < 1 := fun h => h0 (.inr (.inr (.inr (.inl h))))
    have e4 : ¬ 9 < n := fun h => h0 (.inr (.inr (.inr (.inr h))))
    have hg : goodF10 x.f = true := by
      cases hc : goodF10 x.f with
      | true => rfl
      | false => exact absurd (.inl hc) h0
    have hG : (change15 x.f k n).2 = 0 → Good15 (change15 x.f k n).1 := fun h => (change_keep15 h).2.2.1
    rw [hg] at kg
    rw [h.u.len.1] at hcp
    have ka := fun W (hb : Below w.heap.size w W) => rhas15_any _ x.f.vs n W (h.below hb).u (by omega)
    have kl := fun W (hb : Below w.heap.size w W) => rhas15_any _ x.f.ls n W (h.below hb).v (by omega)
    have kwv := fun W (hb : Below w.heap.size w W) => rwith_any _ x.f.vs n W (h.below hb).u (by omega)
    have kwl := fun W (hb : Below w.heap.size w W) => rwith_any _ x.f.ls n W (h.below hb).v (by omega)
    have kov := fun m W (hb : Below w.heap.size w W) => rwithout_any _ x.f.vs m W (h.below hb).u (by omega)
    have kol := fun m W (hb : Below w.heap.size w W) => rwithout_any _ x.f.ls m W (h.below hb).v (by omega)
    generalize hasI10 x.f.vs n = a at *
    generalize hasI10 x.f.ls n = l at *
    obtain ⟨⟨p, u, c⟩, ⟨q, v, d⟩, f⟩ := x
    unfold ConfV.arr noFV nilS10 at *
    dsimp only at *
    generalize change15 f k n = R at *
    have HC : Hid (R = pick15 f k n a l (decide (u = 1))) := hcp
    replace hG : Hid (R.2 = 0 → Good15 R.1) := hG
    clear hcp h0 hb1 hb2 hx1 h hg
    go_enter Try.func11, Try.ntmps11
    go_wp2_with fail
    refine kg.mono ?_
    rintro e w1 ⟨rfl, hb3⟩
    have hB3 := hB.trans (hb3.mono hB.size)
    have hx3 := box_below hx2 hb3
    have hr3 := box_below hr2 hb3
    have s0 : (fun W : World => W.cell? ⟨w.heap.size, 0, none⟩ = some (.slice p u c) ∧ W.cell? ⟨w.heap.size, 1, none⟩ = some (.slice q v d) ∧ W.heap[w.heap.size + 1]? = some (.cells #[.slice none 0 0, .slice none 0 0] 24 (0, 0)) ∧ Below w.heap.size w W) w1.drew := ⟨box_cell hx3 0, box_cell hx3 1, hr3, ⟨hB3.os, hB3.tape, hB3.output, hB3.size, hB3.block⟩⟩
    clear kg hb3 hx2 hr2 hB hx3 hr3 hB3
    go_wp2_with fail
    go_region_held3 (fun W => W.cell? ⟨w.heap.size, 0, none⟩ = some (.slice p u c) ∧ W.cell? ⟨w.heap.size, 1, none⟩ = some (.slice q v d) ∧ W.heap[w.heap.size + 1]? = some (.cells #[.slice none 0 0, .slice none 0 0] 24 (0, 0)) ∧ Below w.heap.size w W)
      (first | exact s0 | exact keepD15 (by assumption) (by assumption))
      (first
        | (go_at_call 24; have hq2' := hq2; refine (kl _ (heldD15 (by assumption))).mono ?_; rintro e w3 ⟨rfl, hq3⟩)
        | (go_at_call 24; refine (ka _ (heldD15 (by assumption))).mono ?_; rintro e w2 ⟨rfl, hq2⟩))
    clear s0 hq2 hq3 ka kl
    rcases (show k = 1 ∨ k = 2 ∨ k = 3 ∨ k = 4 by omega) with rfl | rfl | rfl | rfl
    · clear e1 e2
      cases a
      · cases l
        · have hc : R = (⟨with15 f.vs n, without15 f.ls 0⟩, 0) := by rw [HC.out]; simp [pick15]
          subst hc
          replace hG := hG.out rfl
          go_wp2_with fail
          go_region_held3 (fun W => W.cell? ⟨w.heap.size, 0, none⟩ = some (.slice p u c) ∧ W.cell? ⟨w.heap.size, 1, none⟩ = some (.slice q v d) ∧ (∃ g h : Value, W.heap[w.heap.size + 1]? = some (.cells #[g, h] 24 (0, 0))) ∧ Below w.heap.size w W)
            (first | exact drewC15 (by assumption) | exact keepC15 (by assumption) (by assumption) | exact storeC15 (Nat.le_refl _) hh5)
            (first
              | (go_at_call 25; have hO4' := hO4; refine (kwl _ (heldC15 (by assumption))).mono ?_; rintro e w5 ⟨v5, rfl, hO5, hb5⟩; have hh5 := keepC15 hb5 (by assumption); obtain ⟨g5, g6, hg5⟩ := id hh5.2.2.1; have cr0 := box_cell hg5 0; have cr1 := box_cell hg5 1; have fr0 := frozen15 hg5 0; have fr1 := frozen15 hg5 1; obtain ⟨p5, n5, c5, rfl⟩ := hO5.has.form15)
              | (go_at_call 26; have hO4' := hO4; refine (kol _ _ (heldC15 (by assumption))).mono ?_; rintro e w5 ⟨v5, rfl, hO5, hb5⟩; have hh5 := keepC15 hb5 (by assumption); obtain ⟨g5, g6, hg5⟩ := id hh5.2.2.1; have cr0 := box_cell hg5 0; have cr1 := box_cell hg5 1; have fr0 := frozen15 hg5 0; have fr1 := frozen15 hg5 1; obtain ⟨p5, n5, c5, rfl⟩ := hO5.has.form15)
              | (go_at_call 25; refine (kwv _ (heldC15 (by assumption))).mono ?_; rintro e w4 ⟨v4, rfl, hO4, hb4⟩; have hl4 := ltC15 (by assumption); obtain ⟨p4, n4, c4, rfl⟩ := hO4.has.form15)
              | (go_at_call 26; refine (kov _ _ (heldC15 (by assumption))).mono ?_; rintro e w4 ⟨v4, rfl, hO4, hb4⟩; have hl4 := ltC15 (by assumption); obtain ⟨p4, n4, c4, rfl⟩ := hO4.has.form15))
          obtain ⟨hF, hO, hBz⟩ := fin15 hl4 hO4 hb4.size hb5 hO5 hg5 hh5.2.2.2 hG
          clear hO4 hO5 hb4 hb5 hh5 kwv kwl kov kol
          go_wp2
          exact bodyPost_ret (ret15 rfl _ _ (w.heap.size + 1) _ _ _ _ rfl hF Try.underlying24 rfl (by kernel_rfl)) rfl ⟨_, rfl, rfl, hO, hBz⟩
          
        · clear kwv kwl kov kol hG
          have hc : R = (noF10, 5) := by rw [HC.out]; simp [pick15]
          subst hc
          obtain ⟨hr3, hB3⟩ := heldS15 (by assumption)
          have cr0 := box_cell hr3 0
          have cr1 := box_cell hr3 1
          have fr0 := frozen15 hr3 0
          have fr1 := frozen15 hr3 1
          have hlt2 := box_lt hr3
          obtain ⟨hF, hBz⟩ := end15 hr3 hB3
          go_wp2
          exact bodyPost_ret (ret15 rfl _ _ (w.heap.size + 1) _ _ _ _ rfl hF Try.underlying24 rfl (by kernel_rfl)) rfl ⟨noFV, rfl, rfl, OwnsF15.nil _ _, hBz⟩
          
      · cases l
        all_goals
          clear kwv kwl kov kol hG
          have hc : R = (noF10, 5) := by rw [HC.out]; simp [pick15]
          subst hc
          obtain ⟨hr3, hB3⟩ := heldS15 (by assumption)
          have cr0 := box_cell hr3 0
          have cr1 := box_cell hr3 1
          have fr0 := frozen15 hr3 0
          have fr1 := frozen15 hr3 1
          have hlt2 := box_lt hr3
          obtain ⟨hF, hBz⟩ := end15 hr3 hB3
          go_wp2
          exact bodyPost_ret (ret15 rfl _ _ (w.heap.size + 1) _ _ _ _ rfl hF Try.underlying24 rfl (by kernel_rfl)) rfl ⟨noFV, rfl, rfl, OwnsF15.nil _ _, hBz⟩
          
    · clear e1 e2
      cases a
      · cases l
        · have hc : R = (⟨without15 f.vs 0, with15 f.ls n⟩, 0) := by rw [HC.out]; simp [pick15]
          subst hc
          replace hG := hG.out rfl
          go_wp2_with fail
          go_region_held3 (fun W => W.cell? ⟨w.heap.size, 0, none⟩ = some (.slice p u c) ∧ W.cell? ⟨w.heap.size, 1, none⟩ = some (.slice q v d) ∧ (∃ g h : Value, W.heap[w.heap.size + 1]? = some (.cells #[g, h] 24 (0, 0))) ∧ Below w.heap.size w W)
            (first | exact drewC15 (by assumption) | exact keepC15 (by assumption) (by assumption) | exact storeC15 (Nat.le_refl _) hh5)
            (first
              | (go_at_call 25; have hO4' := hO4; refine (kwl _ (heldC15 (by assumption))).mono ?_; rintro e w5 ⟨v5, rfl, hO5, hb5⟩; have hh5 := keepC15 hb5 (by assumption); obtain ⟨g5, g6, hg5⟩ := id hh5.2.2.1; have cr0 := box_cell hg5 0; have cr1 := box_cell hg5 1; have fr0 := frozen15 hg5 0; have fr1 := frozen15 hg5 1; obtain ⟨p5, n5, c5, rfl⟩ := hO5.has.form15)
              | (go_at_call 26; have hO4' := hO4; refine (kol _ _ (heldC15 (by assumption))).mono ?_; rintro e w5 ⟨v5, rfl, hO5, hb5⟩; have hh5 := keepC15 hb5 (by assumption); obtain ⟨g5, g6, hg5⟩ := id hh5.2.2.1; have cr0 := box_cell hg5 0; have cr1 := box_cell hg5 1; have fr0 := frozen15 hg5 0; have fr1 := frozen15 hg5 1; obtain ⟨p5, n5, c5, rfl⟩ := hO5.has.form15)
              | (go_at_call 25; refine (kwv _ (heldC15 (by assumption))).mono ?_; rintro e w4 ⟨v4, rfl, hO4, hb4⟩; have hl4 := ltC15 (by assumption); obtain ⟨p4, n4, c4, rfl⟩ := hO4.has.form15)
              | (go_at_call 26; refine (kov _ _ (heldC15 (by assumption))).mono ?_; rintro e w4 ⟨v4, rfl, hO4, hb4⟩; have hl4 := ltC15 (by assumption); obtain ⟨p4, n4, c4, rfl⟩ := hO4.has.form15))
          obtain ⟨hF, hO, hBz⟩ := fin15 hl4 hO4 hb4.size hb5 hO5 hg5 hh5.2.2.2 hG
          clear hO4 hO5 hb4 hb5 hh5 kwv kwl kov kol
          go_wp2
          exact bodyPost_ret (ret15 rfl _ _ (w.heap.size + 1) _ _ _ _ rfl hF Try.underlying24 rfl (by kernel_rfl)) rfl ⟨_, rfl, rfl, hO, hBz⟩
          
        · clear kwv kwl kov kol hG
          have hc : R = (noF10, 5) := by rw [HC.out]; simp [pick15]
          subst hc
          obtain ⟨hr3, hB3⟩ := heldS15 (by assumption)
          have cr0 := box_cell hr3 0
          have cr1 := box_cell hr3 1
          have fr0 := frozen15 hr3 0
          have fr1 := frozen15 hr3 1
          have hlt2 := box_lt hr3
          obtain ⟨hF, hBz⟩ := end15 hr3 hB3
          go_wp2
          exact bodyPost_ret (ret15 rfl _ _ (w.heap.size + 1) _ _ _ _ rfl hF Try.underlying24 rfl (by kernel_rfl)) rfl ⟨noFV, rfl, rfl, OwnsF15.nil _ _, hBz⟩
          
      · cases l
        all_goals
          clear kwv kwl kov kol hG
          have hc : R = (noF10, 5) := by rw [HC.out]; simp [pick15]
          subst hc
          obtain ⟨hr3, hB3⟩ := heldS15 (by assumption)
          have cr0 := box_cell hr3 0
          have cr1 := box_cell hr3 1
          have fr0 := frozen15 hr3 0
          have fr1 := frozen15 hr3 1
          have hlt2 := box_lt hr3
          obtain ⟨hF, hBz⟩ := end15 hr3 hB3
          go_wp2
          exact bodyPost_ret (ret15 rfl _ _ (w.heap.size + 1) _ _ _ _ rfl hF Try.underlying24 rfl (by kernel_rfl)) rfl ⟨noFV, rfl, rfl, OwnsF15.nil _ _, hBz⟩
          
    · clear e1 e2
      cases l
      · cases a
        all_goals
          clear kwv kwl kov kol hG
          have hc : R = (noF10, 4) := by rw [HC.out]; simp [pick15]
          subst hc
          obtain ⟨hr3, hB3⟩ := heldS15 (by assumption)
          have cr0 := box_cell hr3 0
          have cr1 := box_cell hr3 1
          have fr0 := frozen15 hr3 0
          have fr1 := frozen15 hr3 1
          have hlt2 := box_lt hr3
          obtain ⟨hF, hBz⟩ := end15 hr3 hB3
          go_wp2
          exact bodyPost_ret (ret15 rfl _ _ (w.heap.size + 1) _ _ _ _ rfl hF Try.underlying24 rfl (by kernel_rfl)) rfl ⟨noFV, rfl, rfl, OwnsF15.nil _ _, hBz⟩
          
      · cases a
        all_goals
          have hc : R = (⟨with15 f.vs n, without15 f.ls n⟩, 0) := by rw [HC.out]; simp [pick15]
          subst hc
          replace hG := hG.out rfl
          go_wp2_with fail
          go_region_held3 (fun W => W.cell? ⟨w.heap.size, 0, none⟩ = some (.slice p u c) ∧ W.cell? ⟨w.heap.size, 1, none⟩ = some (.slice q v d) ∧ (∃ g h : Value, W.heap[w.heap.size + 1]? = some (.cells #[g, h] 24 (0, 0))) ∧ Below w.heap.size w W)
            (first | exact drewC15 (by assumption) | exact keepC15 (by assumption) (by assumption) | exact storeC15 (Nat.le_refl _) hh5)
            (first
              | (go_at_call 25; have hO4' := hO4; refine (kwl _ (heldC15 (by assumption))).mono ?_; rintro e w5 ⟨v5, rfl, hO5, hb5⟩; have hh5 := keepC15 hb5 (by assumption); obtain ⟨g5, g6, hg5⟩ := id hh5.2.2.1; have cr0 := box_cell hg5 0; have cr1 := box_cell hg5 1; have fr0 := frozen15 hg5 0; have fr1 := frozen15 hg5 1; obtain ⟨p5, n5, c5, rfl⟩ := hO5.has.form15)
              | (go_at_call 26; have hO4' := hO4; refine (kol _ _ (heldC15 (by assumption))).mono ?_; rintro e w5 ⟨v5, rfl, hO5, hb5⟩; have hh5 := keepC15 hb5 (by assumption); obtain ⟨g5, g6, hg5⟩ := id hh5.2.2.1; have cr0 := box_cell hg5 0; have cr1 := box_cell hg5 1; have fr0 := frozen15 hg5 0; have fr1 := frozen15 hg5 1; obtain ⟨p5, n5, c5, rfl⟩ := hO5.has.form15)
              | (go_at_call 25; refine (kwv _ (heldC15 (by assumption))).mono ?_; rintro e w4 ⟨v4, rfl, hO4, hb4⟩; have hl4 := ltC15 (by assumption); obtain ⟨p4, n4, c4, rfl⟩ := hO4.has.form15)
              | (go_at_call 26; refine (kov _ _ (heldC15 (by assumption))).mono ?_; rintro e w4 ⟨v4, rfl, hO4, hb4⟩; have hl4 := ltC15 (by assumption); obtain ⟨p4, n4, c4, rfl⟩ := hO4.has.form15))
          obtain ⟨hF, hO, hBz⟩ := fin15 hl4 hO4 hb4.size hb5 hO5 hg5 hh5.2.2.2 hG
          clear hO4 hO5 hb4 hb5 hh5 kwv kwl kov kol
          go_wp2
          exact bodyPost_ret (ret15 rfl _ _ (w.heap.size + 1) _ _ _ _ rfl hF Try.underlying24 rfl (by kernel_rfl)) rfl ⟨_, rfl, rfl, hO, hBz⟩
          
    · clear e1 e2
      cases a
      · cases l
        · clear kwv kwl kov kol hG
          have hc : R = (noF10, 4) := by rw [HC.out]; simp [pick15]
          subst hc
          obtain ⟨hr3, hB3⟩ := heldS15 (by assumption)
          have cr0 := box_cell hr3 0
          have cr1 := box_cell hr3 1
          have fr0 := frozen15 hr3 0
          have fr1 := frozen15 hr3 1
          have hlt2 := box_lt hr3
          obtain ⟨hF, hBz⟩ := end15 hr3 hB3
          go_wp2
          exact bodyPost_ret (ret15 rfl _ _ (w.heap.size + 1) _ _ _ _ rfl hF Try.underlying24 rfl (by kernel_rfl)) rfl ⟨noFV, rfl, rfl, OwnsF15.nil _ _, hBz⟩
          
        · have hc : R = (⟨without15 f.vs n, without15 f.ls n⟩, 0) := by rw [HC.out]; simp [pick15]
          subst hc
          replace hG := hG.out rfl
          go_wp2_with fail
          go_region_held3 (fun W => W.cell? ⟨w.heap.size, 0, none⟩ = some (.slice p u c) ∧ W.cell? ⟨w.heap.size, 1, none⟩ = some (.slice q v d) ∧ (∃ g h : Value, W.heap[w.heap.size + 1]? = some (.cells #[g, h] 24 (0, 0))) ∧ Below w.heap.size w W)
            (first | exact drewC15 (by assumption) | exact keepC15 (by assumption) (by assumption) | exact storeC15 (Nat.le_refl _) hh5)
            (first
              | (go_at_call 25; have hO4' := hO4; refine (kwl _ (heldC15 (by assumption))).mono ?_; rintro e w5 ⟨v5, rfl, hO5, hb5⟩; have hh5 := keepC15 hb5 (by assumption); obtain ⟨g5, g6, hg5⟩ := id hh5.2.2.1; have cr0 := box_cell hg5 0; have cr1 := box_cell hg5 1; have fr0 := frozen15 hg5 0; have fr1 := frozen15 hg5 1; obtain ⟨p5, n5, c5, rfl⟩ := hO5.has.form15)
              | (go_at_call 26; have hO4' := hO4; refine (kol _ _ (heldC15 (by assumption))).mono ?_; rintro e w5 ⟨v5, rfl, hO5, hb5⟩; have hh5 := keepC15 hb5 (by assumption); obtain ⟨g5, g6, hg5⟩ := id hh5.2.2.1; have cr0 := box_cell hg5 0; have cr1 := box_cell hg5 1; have fr0 := frozen15 hg5 0; have fr1 := frozen15 hg5 1; obtain ⟨p5, n5, c5, rfl⟩ := hO5.has.form15)
              | (go_at_call 25; refine (kwv _ (heldC15 (by assumption))).mono ?_; rintro e w4 ⟨v4, rfl, hO4, hb4⟩; have hl4 := ltC15 (by assumption); obtain ⟨p4, n4, c4, rfl⟩ := hO4.has.form15)
              | (go_at_call 26; refine (kov _ _ (heldC15 (by assumption))).mono ?_; rintro e w4 ⟨v4, rfl, hO4, hb4⟩; have hl4 := ltC15 (by assumption); obtain ⟨p4, n4, c4, rfl⟩ := hO4.has.form15))
          obtain ⟨hF, hO, hBz⟩ := fin15 hl4 hO4 hb4.size hb5 hO5 hg5 hh5.2.2.2 hG
          clear hO4 hO5 hb4 hb5 hh5 kwv kwl kov kol
          go_wp2
          exact bodyPost_ret (ret15 rfl _ _ (w.heap.size + 1) _ _ _ _ rfl hF Try.underlying24 rfl (by kernel_rfl)) rfl ⟨_, rfl, rfl, hO, hBz⟩
          
      · by_cases h1 : u = 1
        · have h2 : (((u : Nat) : Int) == 1) = true := beq_iff_eq.2 (by omega)
          cases l
          all_goals
            clear kwv kwl kov kol hG
            have hc : R = (noF10, 2) := by rw [HC.out]; simp [pick15, h1]
            subst hc
            obtain ⟨hr3, hB3⟩ := heldS15 (by assumption)
            have cr0 := box_cell hr3 0
            have cr1 := box_cell hr3 1
            have fr0 := frozen15 hr3 0
            have fr1 := frozen15 hr3 1
            have hlt2 := box_lt hr3
            obtain ⟨hF, hBz⟩ := end15 hr3 hB3
            go_wp2
            exact bodyPost_ret (ret15 rfl _ _ (w.heap.size + 1) _ _ _ _ rfl hF Try.underlying24 rfl (by kernel_rfl)) rfl ⟨noFV, rfl, rfl, OwnsF15.nil _ _, hBz⟩
            
        · have h2 : (((u : Nat) : Int) == 1) = false := beq_eq_false_iff_ne.2 (by omega)
          cases l
          all_goals
            have hc : R = (⟨without15 f.vs n, without15 f.ls n⟩, 0) := by rw [HC.out]; simp [pick15, h1]
            subst hc
            replace hG := hG.out rfl
            go_wp2_with fail
            go_region_held3 (fun W => W.cell? ⟨w.heap.size, 0, none⟩ = some (.slice p u c) ∧ W.cell? ⟨w.heap.size, 1, none⟩ = some (.slice q v d) ∧ (∃ g h : Value, W.heap[w.heap.size + 1]? = some (.cells #[g, h] 24 (0, 0))) ∧ Below w.heap.size w W)
              (first | exact drewC15 (by assumption) | exact keepC15 (by assumption) (by assumption) | exact storeC15 (Nat.le_refl _) hh5)
              (first
                | (go_at_call 25; have hO4' := hO4; refine (kwl _ (heldC15 (by assumption))).mono ?_; rintro e w5 ⟨v5, rfl, hO5, hb5⟩; have hh5 := keepC15 hb5 (by assumption); obtain ⟨g5, g6, hg5⟩ := id hh5.2.2.1; have cr0 := box_cell hg5 0; have cr1 := box_cell hg5 1; have fr0 := frozen15 hg5 0; have fr1 := frozen15 hg5 1; obtain ⟨p5, n5, c5, rfl⟩ := hO5.has.form15)
                | (go_at_call 26; have hO4' := hO4; refine (kol _ _ (heldC15 (by assumption))).mono ?_; rintro e w5 ⟨v5, rfl, hO5, hb5⟩; have hh5 := keepC15 hb5 (by assumption); obtain ⟨g5, g6, hg5⟩ := id hh5.2.2.1; have cr0 := box_cell hg5 0; have cr1 := box_cell hg5 1; have fr0 := frozen15 hg5 0; have fr1 := frozen15 hg5 1; obtain ⟨p5, n5, c5, rfl⟩ := hO5.has.form15)
                | (go_at_call 25; refine (kwv _ (heldC15 (by assumption))).mono ?_; rintro e w4 ⟨v4, rfl, hO4, hb4⟩; have hl4 := ltC15 (by assumption); obtain ⟨p4, n4, c4, rfl⟩ := hO4.has.form15)
                | (go_at_call 26; refine (kov _ _ (heldC15 (by assumption))).mono ?_; rintro e w4 ⟨v4, rfl, hO4, hb4⟩; have hl4 := ltC15 (by assumption); obtain ⟨p4, n4, c4, rfl⟩ := hO4.has.form15))
            obtain ⟨hF, hO, hBz⟩ := fin15 hl4 hO4 hb4.size hb5 hO5 hg5 hh5.2.2.2 hG
            clear hO4 hO5 hb4 hb5 hh5 kwv kwl kov kol
            go_wp2
            exact bodyPost_ret (ret15 rfl _ _ (w.heap.size + 1) _ _ _ _ rfl hF Try.underlying24 rfl (by kernel_rfl)) rfl ⟨_, rfl, rfl, hO, hBz⟩
            
end Go.Proofs.Ytkocomfcjklgcaa
