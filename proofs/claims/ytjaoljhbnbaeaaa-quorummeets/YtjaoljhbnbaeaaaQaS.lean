/-
  Contracts: slices.Sort of ints (as Wd1); sorted, Majority, Commit of quorum.
-/
import Derived.Test.YtjaoljhbnbaeaaaIRow
import Derived.Test.YtjaoljhbnbaeaaaQaM
import Derived.Shelf.SortM.Plain
import Derived.Shelf.SortM.SortNone
import Derived.Ground.SlgmProg
import Derived.Laws.CopyOwn
import Derived.Laws.OwnMore
import Derived.Deep.QuietTactic
namespace Go.Proofs.Ytjaoljhbnbaeaaa
open Go.RowKit Go.Shelf Go.Maps Go.Sort

shelf_lay_g SlLaysM.n5 Slgm 5 at Try 22 as Try.sortIL

theorem putI_take (F : List Int) (c : Array Value) (h : F.length ≤ c.size) : (Sort.putCells (Value.int .i64) 0 F.toArray c).toList.take F.length = F.map (Value.int .i64) := by
  apply List.ext_getElem?
  intro k
  by_cases hk : k < F.length
  · rw [List.getElem?_take, if_pos hk]
    simp [Sort.putCells, show k < c.size by omega, hk]
  · rw [List.getElem?_take, if_neg hk]
    rw [List.getElem?_map, List.getElem?_eq_none (by omega)]
    rfl
theorem sortI_any (B : Nat) (v : Value) (l : List Int) (w : World) (h : OwnsI w B v l) (hl : l.length ≤ 1099511627776) :
    Calls Try.prog 22 #[v] w fun e w' => e = .returned (.tuple #[]) ∧ OwnsI w' B v (l.mergeSort fun x y => decide (x ≤ y)) ∧ w.grownBy w' v.ownBlock := by
  have hnone : ∀ p c, l = [] → v = .slice p 0 c → Calls Try.prog 22 #[v] w fun e w' => e = .returned (.tuple #[]) ∧ OwnsI w' B v (l.mergeSort fun x y => decide (x ≤ y)) ∧ w.grownBy w' v.ownBlock := by
    intro p c h0 hv
    have hc := AnyM.slices_Sort_int_none Try.sortIL p c w
    change Calls Try.prog 22 _ _ _ at hc
    subst hv
    refine hc.mono ?_
    rintro e w' ⟨rfl, rfl⟩
    subst h0
    exact ⟨rfl, by rw [List.mergeSort_nil]; exact h, ⟨rfl, rfl, rfl, Nat.le_refl _, fun _ _ _ => rfl⟩⟩
  rcases h.2 with ⟨hv, hn⟩ | ⟨g, cap, cur, hv, hB, hg, hnc, hcm, hcs, htake⟩
  · exact hnone _ _ (List.eq_nil_of_length_eq_zero hn) hv
  · by_cases h0 : l.length = 0
    · exact hnone _ _ (List.eq_nil_of_length_eq_zero h0) (by rw [hv, h0])
    · have hlt : g < w.heap.size := (Array.getElem?_eq_some_iff.1 hg).1
      have hH : Sort.Holds (Value.int .i64) w g 0 l.toArray := by
        intro j hj
        have hj' : j < l.length := by simpa using hj
        rw [hv] at h
        have hc := World.ownsRow.cells h (g := g) rfl j (.int .i64 l[j]) (by simp [hj'])
        rw [Addr.add_lit] at hc
        refine ⟨?_, by simp [World.frozen?, hg]⟩
        rw [hc, getElem!_pos _ j hj]
        simp
      have hc := AnyM.slices_Sort_int Try.sortIL g 0 cap l w hH hlt (by omega)
      change Calls Try.prog 22 _ _ _ at hc
      rw [hv]
      refine hc.mono ?_
      rintro e w' ⟨rfl, n, os, rfl⟩
      have hlen : (l.mergeSort fun x y => decide (x ≤ y)).length = l.length := List.length_mergeSort _
      generalize (l.mergeSort fun x y => decide (x ≤ y)) = m at *
      have hput : (Sort.grow (Sort.putRow (Value.int .i64) (Sort.ahead w n) g 0 m.toArray) os).heap[g]? = some (.cells (Sort.putCells (Value.int .i64) 0 m.toArray cur) 3 (0, 0)) := by
        unfold Sort.putRow
        rw [Sort.heap_grow_old _ _ (by simp [Sort.mapBlock, Sort.ahead, hlt])]
        simp [Sort.mapBlock, Sort.ahead, Array.getElem?_modify, hg, Sort.onCells]
      refine ⟨rfl, ⟨by simp, .inr ⟨g, cap, _, by rw [hlen], hB, hput, by omega, hcm, ?_, ?_⟩⟩, ?_⟩
      · simp [Sort.putCells, hcs]
      · rw [Nat.mul_one]
        exact putI_take m cur (by omega)
      · refine ⟨rfl, rfl, rfl, ?_, fun k hk hne => ?_⟩
        · simp [Sort.grow, Sort.putRow, Sort.mapBlock, Sort.ahead]
        · have hkg : k ≠ g := fun e => hne (by rw [e]; rfl)
          unfold Sort.putRow
          rw [Sort.heap_grow_old _ _ (by simp [Sort.mapBlock, Sort.ahead]; exact hk)]
          simp [Sort.mapBlock, Sort.ahead, Array.getElem?_modify, Ne.symm hkg]

theorem made_listI (n : Nat) : (madeCells #[Value.int .i64 0] n).toList = (List.replicate n 0).map (Value.int .i64) := by
  apply List.ext_getElem
  · simp [madeCells]
  · intro i h1 h2
    simp [madeCells, Nat.mod_one]
theorem makeI (w : World) (n : Nat) (hn : n ≤ 100000) : (Instr.makeSlice 26 (.int .i64 (n : Int)) (.int .i64 (n : Int))).run Try.prog w = .ok (.slice (some ⟨w.heap.size, 0, none⟩) n n) (w.alloc (.cells (Array.replicate n (Value.int .i64 0)) 3)) := by
  obtain ⟨i, hi, hz, hs, hb⟩ := info_parts Try.infoInt
  have hr := run_make (P := Try.prog) w 26 3 i (.int .i64 0) Try.underlying26 hi hz .i64 .i64 n n (by omega) (Int.le_refl _) (by rw [hb]; omega) (by omega)
  rw [show (Value.int IntKind.i64 0).cells = #[.int .i64 0] from rfl, hs, Nat.mul_one, Int.toNat_natCast] at hr
  rw [hr]
  have hl := made_listI n
  rw [List.map_replicate] at hl
  rw [show madeCells #[Value.int .i64 0] n = Array.replicate n (Value.int .i64 0) from by rw [← Array.toArray_toList (xs := madeCells _ _), hl]; simp]
theorem splice_all {l k : List Value} (h : l.length = k.length) : splice l 0 k = k := by
  unfold splice
  rw [Nat.zero_add, List.take_zero, List.drop_eq_nil_of_le (by omega), List.append_nil, List.nil_append]

/-- copy(s, l), s as long as l, made just ahead. -/
theorem copyI (w : World) (p : Option Addr) (c : Nat) (xs : List Int) (h : HasI w (.slice p xs.length c) xs) (hl : xs.length ≤ 100000) :
    ∃ w1, (Builtin.copy_ #[26, 26] 3 #[.slice (some ⟨w.heap.size, 0, none⟩) xs.length xs.length, .slice p xs.length c]).run Try.prog (w.alloc (.cells (Array.replicate xs.length (Value.int .i64 0)) 3)) = .ok (.int .i64 (xs.length : Int)) w1 ∧
      OwnsI w1 w.heap.size (.slice (some ⟨w.heap.size, 0, none⟩) xs.length xs.length) xs ∧ Below w.heap.size w w1 := by
  obtain ⟨p', c', hv, hc, -, hx⟩ := h
  simp only [Value.slice.injEq, true_and] at hv
  obtain ⟨rfl, rfl⟩ := hv
  by_cases h0 : xs.length = 0
  · obtain rfl := List.eq_nil_of_length_eq_zero h0
    refine ⟨_, ?_, ?_, (Below.refl w.heap.size w).alloc (Nat.le_refl _) (.cells #[] 3)⟩
    · exact run_copy_none (P := Try.prog) _ 26 26 3 3 _ _ _ _ _ _ Try.underlying26 (by kernel_rfl) rfl
    · exact ⟨rfl, .inr ⟨w.heap.size, 0, #[], rfl, Nat.le_refl _, heap_alloc_new w _, Nat.le_refl _, by decide, rfl, rfl⟩⟩
  · obtain ⟨b, o, rfl, hlt, hcell⟩ := hx (by omega)
    have hb1 := (Below.refl w.heap.size w).alloc (Nat.le_refl _) (.cells (Array.replicate xs.length (Value.int .i64 0)) 3)
    have hr := run_copy_row (P := Try.prog) (w.alloc (.cells (Array.replicate xs.length (Value.int .i64 0)) 3)) 26 26 3 3 w.heap.size 0 xs.length xs.length ⟨b, o, none⟩ xs.length c (Array.replicate xs.length (Value.int .i64 0)) 3 (xs.map (Value.int .i64)) Try.underlying26 (by kernel_rfl) (heap_alloc_new w _) (by rw [List.length_map]; exact (Nat.min_self _).symm)
      (fun j v hj => by
        rw [List.getElem?_map] at hj
        obtain ⟨x, hx1, rfl⟩ := Option.map_eq_some_iff.1 hj
        obtain ⟨hjl, rfl⟩ := List.getElem?_eq_some_iff.1 hx1
        rw [Addr.add_lit, hb1.cell (p := ⟨b, o + j, none⟩) hlt, hcell j hjl, List.getD_eq_getElem?_getD, hx1]
        rfl) (by simp) (ints_oneCell .i64 xs)
    rw [List.length_map] at hr
    refine ⟨_, hr, ?_, below_setRow hb1 (Nat.le_refl _) _⟩
    exact ⟨by simp, .inr ⟨w.heap.size, xs.length, _, rfl, Nat.le_refl _, setRow_heap _ _ _ _ _ _ (heap_alloc_new w _), Nat.le_refl _, by unfold maxLen; omega, by simp, by simp [List.take_of_length_le]⟩⟩

set_option maxRecDepth 100000 in
set_option maxHeartbeats 2000000 in
/-- sorted: a list's numbers, rising, in a row of its own. -/
theorem sorted_any (p : Option Addr) (n c : Nat) (xs : List Int) (w : World) (h : HasI w (.slice p n c) xs) (hl : xs.length ≤ 100000) :
    Calls Try.prog 20 #[.slice p n c] w fun e w' => ∃ g, e = .returned (.slice (some ⟨g, 0, none⟩) n n) ∧ OwnsI w' w.heap.size (.slice (some ⟨g, 0, none⟩) n n) (srt14 xs) ∧ Below w.heap.size w w' := by
  obtain rfl : xs.length = n := by obtain ⟨p', c', hv, -⟩ := h; simp only [Value.slice.injEq] at hv; exact hv.2.1.symm
  have hmk := makeI w xs.length hl
  obtain ⟨w1, hcp, hO, hb1⟩ := copyI w p c xs h hl
  clear h
  go_enter Try.func20, Try.ntmps20
  go_wp2_with fail
  clear hmk hcp
  refine (sortI_any w.heap.size _ xs w1 hO (by omega)).mono ?_
  rintro e w2 ⟨rfl, hO2, hg2⟩
  go_wp2
  go_ret
  exact ⟨_, rfl, hO2, hb1.grown hg2 hb1.size fun k hk => by cases hk; exact Nat.le_refl _⟩
end Go.Proofs.Ytjaoljhbnbaeaaa
