/-
  Contracts: Map[int].Put, Get, Len, Tombs.
-/
import Derived.Test.YtkjnifipepiahaaDoorSwGi
import Derived.Test.YtkjnifipepiahaaDoorSwP2
namespace Go.Proofs.YtkjnifipepiahaaDoor
open Go.RowKit Go.Shelf

def IsV_i (v : Value) : Prop := ∃ x, v = .int .i64 x

set_option maxRecDepth 100000 in
set_option maxHeartbeats 4000000 in
theorem put_any_i (b bw bs : Nat) (M : SM) (key : ByteArray) (sv : Int) (w : World) (hT : Tab w) (h : Lies 60 93 w b bw bs M) (hS : M.Sane IsV_i) (hk : key.size < 140737488355328) :
    Calls Tryd.prog 31 #[.pointer (some ⟨b, 0, none⟩), .string key, .int .i64 sv] w fun e w' => e = .returned (.tuple #[.bool (M.put key (.int .i64 sv) (.int .i64 0)).1, .int .i64 ((M.put key (.int .i64 sv) (.int .i64 0)).2.1 : Nat)]) ∧
      ∃ bw' bs', Lies 60 93 w' b bw' bs' (M.put key (.int .i64 sv) (.int .i64 0)).2.2 ∧ But [b, bw, bs] w w' ∧ (bw' = bw ∨ w.heap.size ≤ bw') ∧ (bs' = bs ∨ w.heap.size ≤ bs') := by
  have hF := hS.fit
  have hr := good_range hF.good
  have hfew := hF.few
  have hlt := h.lt
  obtain ⟨cw, cs, c0, c1, c2, c3, c4, c5, hcw, hcs⟩ := h.cells
  have hpos : decide (0 < M.ws.length) = true := decide_eq_true (by omega)
  have hmade := made_any_i b _ _ _ w c2
  rw [hpos] at hmade
  have hfind := find_any_i b bw bs M key w hT h hF hk
  cases hfd : M.find key with
  | some p =>
    obtain ⟨hp1, _, _, _⟩ := find_some hF hfd
    have hput : M.put key (.int .i64 sv) (.int .i64 0) = (true, 0, { M with ss := M.ss.set p ((M.s p).1, .int .i64 sv) }) := by unfold SM.put; rw [hfd]
    rw [hput]
    rw [hfd] at hfind
    clear hput hfd hpos
    go_enter Tryd.func31, Tryd.ntmps31
    go_wp2_with (go_at_call 66; refine hmade.mono ?_; rintro e w ⟨rfl, rfl⟩)
    refine hfind.mono ?_
    rintro e w1 ⟨rfl, hb⟩
    have hl := h.below hb (Nat.le_refl _)
    obtain ⟨dw, ds, _, _, _, k3, _, _, _, hds⟩ := hl.cells
    have kv := hl.val p hp1
    have fv := hl.freeS (p * 2 + 1)
    have hp2 : (p : Int) < M.ss.length := by omega
    have hp3 : (p : Int) ≠ -1 := by omega
    have hset := hl.setV p (.int .i64 sv) hp1
    clear c0 c1 c2 c3 c4 c5 hmade
    go_wp2
    go_ret2
    exact ⟨rfl, bw, bs, hset, (But.of_below hb (Nat.le_refl _)).setCell (p := ⟨bs, p * 2 + 1, none⟩) (.inl (by simp)) _, .inl rfl, .inl rfl⟩
  | none =>
    rw [hfd] at hfind
    by_cases hfull : 2000 ≤ M.n
    · have hput : M.put key (.int .i64 sv) (.int .i64 0) = (false, 7, M) := by unfold SM.put; rw [hfd]; simp only; rw [if_pos hfull]
      rw [hput]
      clear hput hfd hpos
      go_enter Tryd.func31, Tryd.ntmps31
      go_wp2_with (go_at_call 66; refine hmade.mono ?_; rintro e w ⟨rfl, rfl⟩)
      refine hfind.mono ?_
      rintro e w1 ⟨rfl, hb⟩
      have hl := h.below hb (Nat.le_refl _)
      obtain ⟨dw, ds, _, _, _, _, k4, _, _, _⟩ := hl.cells
      clear c0 c1 c2 c3 c4 c5 hmade
      go_wp2
      go_ret2
      exact ⟨rfl, bw, bs, hl, But.of_below hb (Nat.le_refl _), .inl rfl, .inl rfl⟩
    · by_cases hroom : 7 * M.ws.length ≤ M.n + M.t
      · have hput : M.put key (.int .i64 sv) (.int .i64 0) = (false, 0, (M.rehash (.int .i64 0)).place key (.int .i64 sv)) := by unfold SM.put; rw [hfd]; simp only; rw [if_neg hfull, if_pos hroom]
        rw [hput]
        have hg := hS.room hroom (by omega)
        obtain ⟨f1, f2, f3⟩ := rehash_fit hF hg (.int .i64 0)
        clear hput hfd hpos
        go_enter Tryd.func31, Tryd.ntmps31
        go_wp2_with (go_at_call 66; refine hmade.mono ?_; rintro e w ⟨rfl, rfl⟩)
        refine hfind.mono ?_
        rintro e w1 ⟨rfl, hb⟩
        have hl := h.below hb (Nat.le_refl _)
        have hT1 := hT.below hb hT.1
        obtain ⟨dw, ds, _, _, k2, _, k4, k5, _, _⟩ := hl.cells
        have hz := hb.size
        clear c0 c1 c2 c3 c4 c5 hmade
        have hi1 : 7 * (M.ws.length : Int) ≤ M.n + M.t := by omega
        have hi2 : ¬ 2000 ≤ (M.n : Int) := by omega
        go_wp2
        go_quiet (fail)
        go_wp2_with fail
        refine (rehash_any_i b bw bs M (w1.drewN nq) hT1 (hl.drewN nq) hF hS.typed hg).mono ?_
        rintro e w2 ⟨⟨u, rfl⟩, bw', bs', hl2, g1, g2, hb2⟩
        have hpp := h.pos
        have hT2 : Tab w2 := hb2.tab (X := w1.drewN nq) hT1 (by simp; omega)
        go_wp2_with fail
        refine (place_any_i b bw' bs' (M.rehash (.int .i64 0)) key sv w2 hT2 hl2 f1 hk (fun g i hg hi he => absurd he (f2 g i hg hi))).mono ?_
        rintro e w3 ⟨⟨u, rfl⟩, hl3, hb3⟩
        go_wp2
        go_ret2
        have g1' : w.heap.size ≤ bw' := Nat.le_trans hz g1
        have g2' : w.heap.size ≤ bs' := Nat.le_trans hz g2
        have hbb : But [b, bw, bs] w w2 := ((But.of_below hb (Nat.le_refl _)).drewN nq).wide hb2 (by simp)
        exact ⟨rfl, bw', bs', hl3, hbb.wide hb3 (by simp; omega), .inr g1', .inr g2'⟩
      · have hput : M.put key (.int .i64 sv) (.int .i64 0) = (false, 0, M.place key (.int .i64 sv)) := by unfold SM.put; rw [hfd]; simp only; rw [if_neg hfull, if_neg hroom]
        rw [hput]
        clear hput hfd hpos
        go_enter Tryd.func31, Tryd.ntmps31
        go_wp2_with (go_at_call 66; refine hmade.mono ?_; rintro e w ⟨rfl, rfl⟩)
        refine hfind.mono ?_
        rintro e w1 ⟨rfl, hb⟩
        have hl := h.below hb (Nat.le_refl _)
        have hT1 := hT.below hb hT.1
        obtain ⟨dw, ds, _, _, k2, _, k4, k5, _, _⟩ := hl.cells
        clear c0 c1 c2 c3 c4 c5 hmade
        have hi1 : ¬ 7 * (M.ws.length : Int) ≤ M.n + M.t := by omega
        have hi2 : ¬ 2000 ≤ (M.n : Int) := by omega
        go_wp2
        go_quiet (fail)
        go_wp2_with fail
        refine (place_any_i b bw bs M key sv (w1.drewN nq) hT1 (hl.drewN nq) hF hk hS.tombs).mono ?_
        rintro e w3 ⟨⟨u, rfl⟩, hl3, hb3⟩
        go_wp2
        go_ret2
        exact ⟨rfl, bw, bs, hl3, ((But.of_below hb (Nat.le_refl _)).drewN nq).trans hb3, .inl rfl, .inl rfl⟩
end Go.Proofs.YtkjnifipepiahaaDoor
