import Derived.Test.YtkocomfcjklgcaaIRow
import Derived.Test.YtkocomfcjklgcaaChecked
import Derived.Shelf.SortM.Plain
import Derived.Shelf.SortM.SortNone
import Derived.Ground.SlgmProg
import Derived.Laws.CopyOwn
import Derived.Laws.OwnMore
import Derived.Deep.QuietTactic
namespace Go.Proofs.Ytkocomfcjklgcaa
open Go.RowKit Go.Shelf Go.Maps Go.Sort

shelf_lay_g SlLaysM.n5 Slgm 5 at Try 36 as Try.sortIL

theorem putI_take (F : List Int) (c : Array Value) (h : F.length ≤ c.size) : (Sort.putCells (Value.int .i64) 0 F.toArray c).toList.take F.length = F.map (Value.int .i64) := by
  apply List.ext_getElem?
  intro k
  by_cases hk : k < F.length
  · rw [List.getElem?_take, if_pos hk]
    simp [Sort.putCells, show k < c.size by omega, hk]
  · rw [List.getElem?_take, if_neg hk]
    rw [List.getElem?_map, List.getElem?_eq_none (by omega)]
    rfl
theorem sortI_any (B : Nat) (v : Value) (l : List Int) (w : World) (h : OwnsI w B v l) (hl : l.length ≤ 1099511627776) :
    Calls Try.prog 36 #[v] w fun e w' => e = .returned (.tuple #[]) ∧ OwnsI w' B v (l.mergeSort fun x y => decide (x ≤ y)) ∧ w.grownBy w' v.ownBlock := by
  have hnone : ∀ p c, l = [] → v = .slice p 0 c → Calls Try.prog 36 #[v] w fun e w' => e = .returned (.tuple #[]) ∧ OwnsI w' B v (l.mergeSort fun x y => decide (x ≤ y)) ∧ w.grownBy w' v.ownBlock := by
    intro p c h0 hv
    have hc := AnyM.slices_Sort_int_none Try.sortIL p c w
    change Calls Try.prog 36 _ _ _ at hc
    subst hv
    refine hc.mono ?_
    rintro e w' ⟨rfl, rfl⟩
    subst h0
    exact ⟨rfl, by rw [List.mergeSort_nil]; exact h, ⟨rfl, rfl, rfl, Nat.le_refl _, fun _ _ _ => rfl⟩⟩
  rcases h.2 with ⟨hv, hn⟩ | ⟨g, cap, cur, hv, hB, hg, hnc, hcm, hcs, htake⟩
  · exact hnone _ _ (List.eq_nil_of_length_eq_zero hn) hv
  · by_cases h0 : l.length = 0
    · exact hnone _ _ (List.eq_nil_of_length_eq_zero h0) (by rw [hv, h0])
    · have hlt : g < w.heap.size := (Array.getElem?_eq_some_iff.1 hg).1
      have hH : Sort.Holds (Value.int .i64) w g 0 l.toArray := by
        intro j hj
        have hj' : j < l.length := by simpa using hj
        rw [hv] at h
        have hc := World.ownsRow.cells h (g := g) rfl j (.int .i64 l[j]) (by simp [hj'])
        rw [Addr.add_lit] at hc
        refine ⟨?_, by simp [World.frozen?, hg]⟩
        rw [hc, getElem!_pos _ j hj]
        simp
      have hc := AnyM.slices_Sort_int Try.sortIL g 0 cap l w hH hlt (by omega)
      change Calls Try.prog 36 _ _ _ at hc
      rw [hv]
      refine hc.mono ?_
      rintro e w' ⟨rfl, n, os, rfl⟩
      have hlen : (l.mergeSort fun x y => decide (x ≤ y)).length = l.length := List.length_mergeSort _
      generalize (l.mergeSort fun x y => decide (x ≤ y)) = m at *
      have hput : (Sort.grow (Sort.putRow (Value.int .i64) (Sort.ahead w n) g 0 m.toArray) os).heap[g]? = some (.cells (Sort.putCells (Value.int .i64) 0 m.toArray cur) 3 (0, 0)) := by
        unfold Sort.putRow
        rw [Sort.heap_grow_old _ _ (by simp [Sort.mapBlock, Sort.ahead, hlt])]
        simp [Sort.mapBlock, Sort.ahead, Array.getElem?_modify, hg, Sort.onCells]
      refine ⟨rfl, ⟨by simp, .inr ⟨g, cap, _, by rw [hlen], hB, hput, by omega, hcm, ?_, ?_⟩⟩, ?_⟩
      · simp [Sort.putCells, hcs]
      · rw [Nat.mul_one]
        exact putI_take m cur (by omega)
      · refine ⟨rfl, rfl, rfl, ?_, fun k hk hne => ?_⟩
        · simp [Sort.grow, Sort.putRow, Sort.mapBlock, Sort.ahead]
        · have hkg : k ≠ g := fun e => hne (by rw [e]; rfl)
          unfold Sort.putRow
          rw [Sort.heap_grow_old _ _ (by simp [Sort.mapBlock, Sort.ahead]; exact hk)]
          simp [Sort.mapBlock, Sort.ahead, Array.getElem?_modify, Ne.symm hkg]

end Go.Proofs.Ytkocomfcjklgcaa
