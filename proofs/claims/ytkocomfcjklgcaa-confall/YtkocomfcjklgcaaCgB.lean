import Derived.Test.YtkocomfcjklgcaaCgA
import Derived.Test.YtkocomfcjklgcaaQaE
import Derived.Shelf.Slices.SearchI
import Derived.Shelf.Slices.Empties
import Derived.WalkMore
import Derived.Deep.LoopGhost
import Derived.Ground.Names2Prog
import Derived.Shelf.Slices.CompactI
import Derived.Lib.RowBridge
namespace Go.Proofs.Ytkocomfcjklgcaa
open Go.RowKit Go.Shelf Go.Sort

shelf_lay Lays2.n20 Nm2 20 at Try as Try.compIL

theorem putI_row15 (l r : List Int) (cur : Array Value) (h : (l ++ r).length ≤ cur.size) : (Sort.putCells (Value.int .i64) 0 (l ++ r).toArray cur).toList.take l.length = l.map (Value.int .i64) := by
  have h1 := putI_take (l ++ r) cur h
  have h2 : (((Sort.putCells (Value.int .i64) 0 (l ++ r).toArray cur).toList.take (l ++ r).length).take l.length) = ((l ++ r).map (Value.int .i64)).take l.length := by rw [h1]
  rw [List.take_take, Nat.min_eq_left (by simp)] at h2
  rw [h2, ← List.map_take, List.take_left]
theorem put_owns15 {w : World} {B g cap q : Nat} {cur : Array Value} (l r : List Int) (hB : B ≤ g) (hg : w.heap[g]? = some (.cells cur 3 (0, 0))) (hn : (l ++ r).length ≤ cap) (hcm : cap ≤ maxLen) (hcs : cur.size = cap * 1) :
    OwnsI (Sort.putRow (Value.int .i64) (Sort.ahead w q) g 0 (l ++ r).toArray) B (.slice (some ⟨g, 0, none⟩) l.length cap) l ∧ w.grownBy (Sort.putRow (Value.int .i64) (Sort.ahead w q) g 0 (l ++ r).toArray) (some g) := by
  have hlt : g < w.heap.size := (Array.getElem?_eq_some_iff.1 hg).1
  have hput : (Sort.putRow (Value.int .i64) (Sort.ahead w q) g 0 (l ++ r).toArray).heap[g]? = some (.cells (Sort.putCells (Value.int .i64) 0 (l ++ r).toArray cur) 3 (0, 0)) := by
    unfold Sort.putRow
    simp [Sort.mapBlock, Sort.ahead, Array.getElem?_modify, hg, Sort.onCells]
  have hl : l.length ≤ cap := by rw [List.length_append] at hn; omega
  refine ⟨⟨by simp, .inr ⟨g, cap, _, rfl, hB, hput, hl, hcm, ?_, ?_⟩⟩, rfl, rfl, rfl, ?_, fun k hk hne => ?_⟩
  · simp [Sort.putCells, hcs]
  · rw [Nat.mul_one]
    exact putI_row15 l r cur (by omega)
  · simp [Sort.putRow, Sort.mapBlock, Sort.ahead]
  · have hkg : k ≠ g := fun e => hne (by rw [e])
    unfold Sort.putRow
    simp [Sort.mapBlock, Sort.ahead, Array.getElem?_modify, Ne.symm hkg]
theorem OwnsI.holds15 {w : World} {B g cap n : Nat} {l : List Int} (h : OwnsI w B (.slice (some ⟨g, 0, none⟩) n cap) l) (hg : ∃ cur, w.heap[g]? = some (.cells cur 3 (0, 0))) : Sort.Holds (Value.int .i64) w g 0 l.toArray := by
  obtain ⟨cur, hg⟩ := hg
  intro j hj
  have hj' : j < l.length := by simpa using hj
  have hc := World.ownsRow.cells h (g := g) rfl j (.int .i64 l[j]) (by simp [hj'])
  rw [Addr.add_lit] at hc
  refine ⟨?_, by simp [World.frozen?, hg]⟩
  rw [hc, getElem!_pos _ j hj]
  simp

theorem compactI_any (B : Nat) (v : Value) (l : List Int) (w : World) (h : OwnsI w B v l) (hl : l.length ≤ 1099511627776) :
    Calls Try.prog 37 #[v] w fun e w' => ∃ v', e = .returned v' ∧ OwnsI w' B v' (Lib.compact l) ∧ w.grownBy w' v.ownBlock ∧ ∀ k, v'.ownBlock = some k → v.ownBlock = some k := by
  have hnone : ∀ p c, l = [] → v = .slice p 0 c → Calls Try.prog 37 #[v] w fun e w' => ∃ v', e = .returned v' ∧ OwnsI w' B v' (Lib.compact l) ∧ w.grownBy w' v.ownBlock ∧ ∀ k, v'.ownBlock = some k → v.ownBlock = some k := by
    intro p c h0 hv
    have hc := Any.slices_Compact_int_empty Try.compIL p c w
    change Calls Try.prog 37 _ _ _ at hc
    subst hv
    refine hc.mono ?_
    rintro e w' ⟨rfl, rfl⟩
    subst h0
    exact ⟨_, rfl, h, ⟨rfl, rfl, rfl, Nat.le_refl _, fun _ _ _ => rfl⟩, fun _ hk => hk⟩
  rcases id h.2 with ⟨hv, hn⟩ | ⟨g, cap, cur, hv, hB, hg, hnc, hcm, hcs, htake⟩
  · exact hnone _ _ (List.eq_nil_of_length_eq_zero hn) hv
  · by_cases h0 : l.length = 0
    · exact hnone _ _ (List.eq_nil_of_length_eq_zero h0) (by rw [hv, h0])
    · have hH : Sort.Holds (Value.int .i64) w g 0 l.toArray := by rw [hv] at h; exact h.holds15 ⟨_, hg⟩
      have hc := Any.slices_Compact_int Try.compIL g 0 cap l w hH (by omega) hnc
      change Calls Try.prog 37 _ _ _ at hc
      rw [hv]
      refine hc.mono ?_
      rintro e w' ⟨rfl, q, rfl⟩
      have hle := Lib.compact_length_le l
      obtain ⟨h1, h2⟩ := put_owns15 (q := q) (Lib.compact l) (List.replicate (l.length - (Lib.compact l).length) 0) hB hg (by rw [List.length_append, List.length_replicate]; omega) hcm hcs
      exact ⟨_, rfl, h1, h2, fun _ hk => hk⟩

def set15 (l : List Int) : List Int := Lib.compact (l.mergeSort fun x y => decide (x ≤ y))

set_option maxRecDepth 100000 in
set_option maxHeartbeats 2000000 in
theorem rising_any (b : Nat) (ls : List (Value × List Int)) (w : World) (h : Rows15 w b ls) (hl : len15 ls ≤ 100000) (hn : ls.length ≤ 100) :
    Calls Try.prog 28 #[.slice (some ⟨b, 0, none⟩) ls.length ls.length] w fun e w' => ∃ v, e = .returned v ∧ OwnsI w' w.heap.size v (set15 (cat15 ls)) ∧ Below w.heap.size w w' := by
  have hcl := cat_len15 ls
  have hk := concat15_any b ls w h hl hn
  generalize ls.length = n at *
  clear h
  unfold set15
  generalize cat15 ls = xs at *
  have hS := fun w1 v1 (hO1 : OwnsI w1 w.heap.size v1 xs) => sortI_any w.heap.size v1 xs w1 hO1 (by omega)
  have hlen : (xs.mergeSort fun x y => decide (x ≤ y)).length = xs.length := List.length_mergeSort _
  generalize (xs.mergeSort fun x y => decide (x ≤ y)) = ys at *
  go_enter Try.func28, Try.ntmps28
  go_wp2_with fail
  refine hk.mono ?_
  rintro e w1 ⟨v1, rfl, hO1, hb1⟩
  have hw1 : ∀ k, v1.ownBlock = some k → w.heap.size ≤ k := fun k hk => (World.ownsRow.lt hO1 k hk).1
  have hS := hS w1 v1 hO1
  clear hO1 hk
  go_wp2_with fail
  refine hS.mono ?_
  rintro e w2 ⟨rfl, hO2, hg2⟩
  have hb2 : Below w.heap.size w w2 := hb1.grown hg2 hb1.size hw1
  have hC := compactI_any w.heap.size v1 ys w2 hO2 (by omega)
  clear hS hO2 hg2
  go_wp2_with fail
  refine hC.mono ?_
  rintro e w3 ⟨v3, rfl, hO3, hg3, -⟩
  have hb3 : Below w.heap.size w w3 := hb2.grown hg3 hb2.size hw1
  clear hC hg3
  obtain ⟨p9, c9, rfl, -, -, -⟩ := id hO3.has
  go_wp2
  go_ret
  exact ⟨_, rfl, hO3, hb3⟩
end Go.Proofs.Ytkocomfcjklgcaa
