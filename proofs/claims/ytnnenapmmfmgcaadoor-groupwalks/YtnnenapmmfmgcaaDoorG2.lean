/-
  Contracts: group.First, Next, each, the function that each makes, Count.
-/
import Derived.Test.YtnnenapmmfmgcaaDoorG1
import Derived.RangeFuncNested
import Derived.RangeFuncFrom
import Derived.RangeFuncBound
import Derived.RangeFuncCalls
import Derived.RangeFuncLeaves
import Derived.Shelf.Abstract
import Derived.Shelf.RegionOpen
import Derived.OwnWalkIn
import Derived.TacticsInMore
import Derived.LoopNIn
import Derived.LoopIn
namespace Go.Proofs.YtnnenapmmfmgcaaDoor
open Go.RowKit Go.Shelf

/-- The table, by its text. -/
def lowT : List Nat := [4, 0, 1, 0, 2, 0, 1, 0, 3, 0, 1, 0, 2, 0, 1, 0]
def Tab (w : World) : Prop := 0 < w.heap.size ∧ ∀ i : Nat, i < 16 → w.cell? ⟨0, i, none⟩ = some (.int .i64 (lowT.getD i 0 : Nat))
theorem Tab.below {w w' : World} {B : Nat} (h : Tab w) (hb : Below B w w') (hB : 0 < B) : Tab w' :=
  ⟨Nat.lt_of_lt_of_le h.1 hb.size, fun i hi => (hb.cell (p := ⟨0, i, none⟩) hB).trans (h.2 i hi)⟩

def lowN (s : Nat) : Nat := lowT.getD s 0
def firstN (s : Nat) : Nat := if lowN (s % 16) = 4 then 4 + lowN (s / 16) else lowN (s % 16)
def nextN (s : Nat) : Nat := s &&& (s + 255) % 256
def slotsL (s : Nat) : List Nat := (List.range 8).filter fun i => s / 2 ^ i % 2 = 1
theorem lowN_le : ∀ s : Fin 16, lowN s.val ≤ 4 := by decide
theorem nextN_lt (s : Nat) (h : s < 256) : nextN s < 256 := Nat.lt_of_le_of_lt Nat.and_le_left h
theorem slots_step : ∀ s : Fin 256, s.val ≠ 0 → slotsL s.val = firstN s.val :: slotsL (nextN s.val) := by decide +kernel
theorem slots_zero : slotsL 0 = [] := by decide
theorem slots_le (s : Nat) : (slotsL s).length ≤ 8 := by
  have := List.length_filter_le (fun i => decide (s / 2 ^ i % 2 = 1)) (List.range 8)
  rw [List.length_range] at this
  exact this
theorem Tab.at {w : World} (h : Tab w) (s : Nat) (hs : s < 16) : w.cell? ⟨0, s, none⟩ = some (.int .i64 (lowN s : Nat)) := h.2 s hs

set_option maxHeartbeats 1000000 in
theorem first_any (s : Nat) (w : World) (hT : Tab w) (hs : s < 256) : Calls Tryd.prog 21 #[.int .u8 s] w fun e w' => e = .returned (.int .i64 (firstN s : Nat)) ∧ w' = w := by
  have e1 : bits .and .u8 (s : Int) 15 = ((s % 16 : Nat) : Int) := by
    rw [show (15 : Int) = ((15 : Nat) : Int) from rfl, u8_and_nat s 15 hs (by decide), nat_mask4]
  have c1 := hT.at (s % 16) (by omega)
  have c2 := hT.at (s / 16) (by omega)
  have l1 := lowN_le ⟨s % 16, by omega⟩
  have l2 := lowN_le ⟨s / 16, by omega⟩
  have e2 : firstN s = if lowN (s % 16) = 4 then 4 + lowN (s / 16) else lowN (s % 16) := rfl
  dsimp only at l1 l2
  generalize lowN (s % 16) = a at *
  generalize lowN (s / 16) = b at *
  generalize firstN s = f at *
  have b1 : s % 16 < 16 := by omega
  have b2 : s / 16 < 16 := by omega
  have e3 : (s : Int) / 16 = ((s / 16 : Nat) : Int) := by omega
  clear hT
  generalize s % 16 = x at *
  generalize s / 16 = y at *
  go_enter Tryd.func21, Tryd.ntmps21
  go_wp2
  · rename_i hq
    have ha : a = 4 := by have := eq_of_beq hq; omega
    go_ret
    refine ⟨?_, rfl⟩
    rw [e2, if_pos ha, ← ha]
    rfl
  · rename_i hq
    have ha : a ≠ 4 := fun h => by subst h; simp at hq
    go_ret
    refine ⟨?_, rfl⟩
    rw [e2, if_neg ha]
    rfl

set_option maxHeartbeats 1000000 in
theorem next_any (s : Nat) (w : World) (hs : s < 256) : Calls Tryd.prog 23 #[.int .u8 s] w fun e w' => e = .returned (.int .u8 (nextN s : Nat)) ∧ w' = w := by
  have e1 : IntKind.u8.wrap ((s : Int) - 1) = (((s + 255) % 256 : Nat) : Int) := by rw [IntKind.wrap_u8']; omega
  have e2 := u8_and_nat s ((s + 255) % 256) hs (Nat.mod_lt _ (by decide))
  go_enter Tryd.func23, Tryd.ntmps23
  go_wp2
  go_ret
  exact ⟨congrArg (fun x => Ending.returned (.int .u8 x)) e2, rfl⟩

set_option maxHeartbeats 1000000 in
theorem each_any (s : Nat) (w : World) : Calls Tryd.prog 30 #[.int .u8 s] w fun e w' => e = .returned (.func (.func 31) #[] #[.pointer (some ⟨w.heap.size, 0, none⟩)]) ∧ w' = w.alloc (.cells #[.int .u8 s] 5) := by
  go_enter Tryd.func30, Tryd.ntmps30
  go_wp2
  go_ret
  exact ⟨rfl, rfl⟩

set_option maxRecDepth 100000 in
set_option maxHeartbeats 2000000 in
/-- The function that each makes: it hands on a set's slots, the lowest first, and stops where a round has said 'no more'. -/
theorem each1_in (l Bn n₀ : Nat) (s : Nat) (hs : s < 256) (h0 : 0 < n₀) (J Jx : List Nat → World → Prop)
    (hY : ∀ pre x W, J pre W → pre.length < (slotsL s).length → YieldAt Fence.wide 2 Tryd.prog l #[.int .i64 (x : Nat)] W fun e W' =>
      (e = .returned (.bool true) ∧ J (pre ++ [x]) W' ∧ Below n₀ W W') ∨ (e = .returned (.bool false) ∧ Jx (pre ++ [x]) W'))
    (W : World) (hT : Tab W) (hBn : W.cell? ⟨Bn, 0, none⟩ = some (.int .u8 s)) (hJ : J [] W) :
    CallsIn Fence.wide 3 Tryd.prog 31 #[.func (.yield l) #[] #[], .pointer (some ⟨Bn, 0, none⟩)] W fun e W' => (∃ v, e = .returned v) ∧
      ((∃ ys, ys = slotsL s ∧ J ys W') ∨ (∃ pre, pre <+: slotsL s ∧ Jx pre W')) := by
  refine callsIn_of_wp Tryd.func31 rfl trivial ?_ rfl
  simp only [Tryd.ntmps31, List.size_toArray, List.length_cons, List.length_nil, Nat.reduceAdd, Nat.reduceSub, Array.replicate_succ, Array.replicate_zero, List.push_toArray, List.append_toArray, List.nil_append, List.cons_append]
  gi_wp2
  gi_loopw [3] (fun p wr => ∃ (pre : List Nat) (q : Nat), p = .int .u8 q ∧ q < 256 ∧ slotsL s = pre ++ slotsL q ∧ Tab wr ∧ J pre wr)
    (fun p _ => (slotsL (intOf p).toNat).length)
  case atStart =>
    exact ⟨[], s, rfl, hs, rfl, hT, hJ⟩
  case round =>
    obtain ⟨pre, q, rfl, hq, hx, hTr, hJs⟩ := hrel
    by_cases h0q : q = 0
    · subst h0q
      gi_wp2
      go_end0
      exact ⟨⟨_, rfl⟩, .inl ⟨pre, by rw [hx, slots_zero, List.append_nil], hJs⟩⟩
    · have hst := slots_step ⟨q, hq⟩ h0q
      dsimp only at hst
      obtain ⟨fn, tmps, assign, body, hy, hR⟩ := hY pre (firstN q) wr hJs (by rw [hx, hst]; simp)
      gi_wp2_with (refine ⟨trivial, ?_⟩; gi_at_call 21; refine (callsIn_wide.2 (first_any q _ hTr hq)).mono ?_; rintro e w' ⟨rfl, rfl⟩)
      refine hR.mono ?_
      clear hR hy
      rintro e W3 (⟨rfl, hJ3, hk3⟩ | ⟨rfl, hJx3⟩)
      · have hT3 : Tab W3 := hTr.below hk3 h0
        gi_wp2_with (refine ⟨trivial, ?_⟩; gi_at_call 23; refine (callsIn_wide.2 (next_any q _ hq)).mono ?_; rintro e w' ⟨rfl, rfl⟩)
        go_roundw
        case rel => exact ⟨pre ++ [firstN q], nextN q, rfl, nextN_lt q hq, by rw [hx, hst]; simp, hT3, hJ3⟩
        case measure =>
          show (slotsL (nextN q)).length < (slotsL q).length
          rw [hst]; simp
      · gi_wp2
        refine bodyPost_ret (results_none rfl _ _ _) rfl ?_
        exact ⟨⟨_, rfl⟩, .inr ⟨pre ++ [firstN q], ⟨slotsL (nextN q), by rw [hx, hst]; simp⟩, hJx3⟩⟩

theorem each1_stops (Bn n₀ s : Nat) (hs : s < 256) (h0 : 0 < n₀) (w : World) (hBn : Bn < w.heap.size) (hn₀ : n₀ ≤ w.heap.size) (hT : Tab w) (hc : w.cell? ⟨Bn, 0, none⟩ = some (.int .u8 s)) :
    SeqStopsK Fence.wide 3 Tryd.prog 31 #[.pointer (some ⟨Bn, 0, none⟩)] (fun x : Nat => #[Value.int .i64 x]) (Below n₀) (fun ys => ys = slotsL s) (fun pre => pre <+: slotsL s) (slotsL s).length w := fun l J Jx W hW _ _ hY hJ =>
  each1_in l Bn n₀ s hs h0 J Jx hY W (hT.below (hW.mono hn₀) h0) ((hW.cell (p := ⟨Bn, 0, none⟩) hBn).trans hc) hJ

theorem cell_of_box {W : World} {B : Nat} {v : Value} {t : TypeId} (h : W.heap[B]? = some (.cells #[v] t (0, 0))) : W.cell? ⟨B, 0, none⟩ = some v ∧ W.frozen? ⟨B, 0, none⟩ = false := by
  constructor <;> simp [World.cell?, World.frozen?, h]
theorem cell_new (W : World) (v : Value) (t : TypeId) : (W.alloc (.cells #[v] t)).cell? ⟨W.heap.size, 0, none⟩ = some v ∧ (W.alloc (.cells #[v] t)).frozen? ⟨W.heap.size, 0, none⟩ = false :=
  cell_of_box (World.alloc_heap_new W _)
theorem cell_alloc {W : World} {a : Addr} {v : Value} (o : Obj) (h : W.cell? a = some v) : (W.alloc o).cell? a = some v := cell_kept h (World.grownBy_alloc W o none) (fun r e => by cases e)
theorem frozen_alloc {W : World} {a : Addr} {v : Value} (o : Obj) (h : W.cell? a = some v) (hf : W.frozen? a = false) : (W.alloc o).frozen? a = false := (frozen_kept h (World.grownBy_alloc W o none) (fun r e => by cases e)).trans hf

set_option maxRecDepth 100000 in
set_option maxHeartbeats 2000000 in
theorem count_any (s : Nat) (w : World) (hT : Tab w) (hs : s < 256) :
    Calls Tryd.prog 25 #[.int .u8 s] w fun e w' => e = .returned (.int .i64 ((slotsL s).length : Nat)) ∧ Below w.heap.size w w' := by
  refine (callsIn_wide (n := 4)).1 ?_
  refine callsIn_of_wp_marks Tryd.func25 rfl trivial ?_ rfl
  simp only [Tryd.ntmps25, List.size_toArray, List.length_cons, List.length_nil, Nat.reduceAdd, Nat.reduceSub, Array.replicate_succ, Array.replicate_zero, List.push_toArray, List.append_toArray, List.nil_append, List.cons_append]
  gi_wp2_with (refine ⟨trivial, ?_⟩; gi_at_call 30; refine (callsIn_wide.2 (each_any s _)).mono ?_; rintro e w' ⟨rfl, rfl⟩)
  have hN := slots_le s
  have hs0 := cell_new w (.int .i64 0) 3
  have hb := cell_new (w.alloc (.cells #[.int .i64 0] 3)) (.int .u8 s) 5
  rw [World.size_alloc] at hb
  have hB0 : Below w.heap.size w ((w.alloc (.cells #[.int .i64 0] 3)).alloc (.cells #[.int .u8 s] 5)) := ((Below.refl _ w).alloc (Nat.le_refl _) _).alloc (by simp) _
  refine wpIn_rangeFunc_ownF rfl (by decide) (gf := 31) (lb := #[.pointer (some ⟨w.heap.size + 1, 0, none⟩)]) rfl trivial (enters_of Tryd.func31 (by kernel_rfl) rfl)
    (each1_stops (w.heap.size + 1) w.heap.size s hs hT.1 _ (by simp) (by simp; omega) (hT.below hB0 hT.1) hb.1) belowK_t (belowK_b (by simp; omega)) (Below.refl _ _) (fun _ => rfl)
    (fun pre W => (W.cell? ⟨w.heap.size, 0, none⟩ = some (.int .i64 (pre.length : Nat)) ∧ W.frozen? ⟨w.heap.size, 0, none⟩ = false) ∧ Below w.heap.size w W)
    (fun _ _ _ => False)
    (OwnFrom.and (Own.from (fun s A B row hs hg hr => ⟨cell_kept hs.1 hg hr, (frozen_kept hs.1 hg hr).trans hs.2⟩) _) (ownFrom_below (Nat.le_refl _) (by simp; omega)))
    (fun _ _ _ _ _ hs _ _ => hs)
    ⟨⟨cell_alloc _ hs0.1, frozen_alloc _ hs0.1 hs0.2⟩, hB0⟩
    (fun x => { tmps := #[.int .u8 s, undef, .int .i64 0, .pointer (some ⟨w.heap.size, 0, none⟩), .int .u8 s, .func (.func 31) #[] #[.pointer (some ⟨w.heap.size + 1, 0, none⟩)], .int .i64 x, undef, undef, undef], defers := [] }) ?assign ?body ?done ?stop
  case assign =>
    intro l x W K hK
    gi_wp2
    simpa using hK
  case body =>
    rintro l pre x W ⟨⟨hc, hf⟩, hB⟩ hlen
    have hl8 : pre.length < 8 := by omega
    gi_wp2_with (rw [Oper.semAt_eq _ _ _ (fun c h => by cases h)]; go_simp; try go_bits)
    exact ⟨KeepsOthers.setCell _ _ _, (Below.refl w.heap.size W).setCell (p := ⟨w.heap.size, 0, none⟩) (Nat.le_refl _) _, ⟨by rw [List.length_append]; exact World.cell?_setCell_same' _ _ _ (by rw [hc]; rfl), by rw [World.frozen?_setCell]; exact hf⟩, hB.setCell (p := ⟨w.heap.size, 0, none⟩) (Nat.le_refl _) _⟩
  case done =>
    rintro D ys W hD rfl ⟨⟨hc, _⟩, hB⟩ hK
    gi_wp2
    refine ⟨by simp, .inl ⟨_, _, rfl, run_takeDeferred hK, ?_⟩⟩
    exact ⟨_, results_tmp rfl _ _ _, rfl, hB.trans (belowK_b (w := w) (Nat.le_refl _) W D _ _ (by simp at hD; omega) hK rfl rfl)⟩
  case stop =>
    rintro D c pre W _ _ h _
    exact h.elim
end Go.Proofs.YtnnenapmmfmgcaaDoor
