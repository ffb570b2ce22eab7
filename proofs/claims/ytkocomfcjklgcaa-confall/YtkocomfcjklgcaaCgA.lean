import Derived.Test.YtkocomfcjklgcaaQaI
import Derived.Test.YtkocomfcjklgcaaHRowETo
import Derived.Shelf.Spec.SlicesGrow
import Derived.Ground.Names8Prog
namespace Go.Proofs.Ytkocomfcjklgcaa
open Go.RowKit Go.Shelf

shelf_lay_g Lays8.n4 Nm8 4 at Try 44 as Try.growIL

theorem grow15_any (n : Nat) (w : World) (hn : n ≤ 1000000) :
    Calls Try.prog 44 #[.slice none 0 0, .int .i64 n] w fun e w' => ∃ v, e = .returned v ∧ OwnsI w' w.heap.size v [] ∧ Below w.heap.size w w' := by
  by_cases h0 : n = 0
  · subst h0
    have hc := Any8.slices_Grow_room Try.growIL none 0 0 0 w (Nat.le_refl _) (by omega) (by omega) (by omega)
    change Calls Try.prog 44 _ _ _ at hc
    refine hc.mono ?_
    rintro e w' ⟨rfl, rfl⟩
    exact ⟨_, rfl, OwnsI.nil _ _, Below.refl _ _⟩
  · obtain ⟨i, hi, hz, hs, hb⟩ := info_parts Try.infoInt
    have hc := Any8.slices_Grow_grow Try.growIL i (.int .i64 0) hi hz (by omega) none 0 0 n [] w (Nat.le_refl _) (by omega) (by rw [hb]; omega) (by omega) (by simp) (fun _ => rfl) (fun _ h => by cases h)
    change Calls Try.prog 44 _ _ _ at hc
    refine hc.mono ?_
    rintro e w' ⟨rfl, rfl⟩
    have hG := grownCap_ge w (0 + n) 0 3
    have hM := grownCap_le_maxLen w (0 + n) 0 3 (by unfold maxLen; omega)
    change ∃ v, Ending.returned (.slice (some ⟨w.heap.size, 0, none⟩) 0 (grownCap w (0 + n) 0 3)) = .returned v ∧ OwnsI (w.drew.alloc (.cells (#[] ++ Builtin.zeroCells (Value.int IntKind.i64 0).cells (0 + n - 0) ++ Builtin.zeroCells (Value.int IntKind.i64 0).cells (grownCap w (0 + n) 0 3 - (0 + n))) 3)) w.heap.size v [] ∧ Below w.heap.size w (w.drew.alloc (.cells (#[] ++ Builtin.zeroCells (Value.int IntKind.i64 0).cells (0 + n - 0) ++ Builtin.zeroCells (Value.int IntKind.i64 0).cells (grownCap w (0 + n) 0 3 - (0 + n))) 3))
    generalize grownCap w (0 + n) 0 3 = G at *
    refine ⟨_, rfl, ⟨rfl, .inr ⟨w.heap.size, G, _, rfl, Nat.le_refl _, heap_alloc_new w.drew _, Nat.zero_le _, hM, ?_, ?_⟩⟩, ?_⟩
    · simp [size_zeroCells, Value.cells]; omega
    · simp
    · exact (show Below w.heap.size w w.drew from ⟨rfl, rfl, rfl, Nat.le_refl _, fun _ _ => rfl⟩).alloc (Nat.le_refl _) _

structure Rows15 (w : World) (b : Nat) (ls : List (Value × List Int)) : Prop where
  at' : w.heap[b]? = some (.cells (ls.map Prod.fst).toArray 22 (0, 0))
  all : ∀ p ∈ ls, HasI w p.1 p.2
def len15 (ls : List (Value × List Int)) : Nat := (ls.map fun p => p.2.length).sum
def cat15 (ls : List (Value × List Int)) : List Int := ls.flatMap Prod.snd
theorem cat_len15 : ∀ ls : List (Value × List Int), (cat15 ls).length = len15 ls
  | [] => rfl
  | p :: ls => by
    have := cat_len15 ls
    unfold cat15 len15 at *
    simp only [List.flatMap_cons, List.length_append, List.map_cons, List.sum_cons, this]
theorem cat_take15 {ls : List (Value × List Int)} {j : Nat} (h : j < ls.length) : cat15 (ls.take (j + 1)) = cat15 (ls.take j) ++ ls[j].2 := by
  unfold cat15
  rw [List.take_succ_eq_append_getElem h, List.flatMap_append]
  simp
theorem len_take15 {ls : List (Value × List Int)} {j : Nat} (h : j < ls.length) : len15 (ls.take (j + 1)) = len15 (ls.take j) + ls[j].2.length := by
  rw [← cat_len15, ← cat_len15, cat_take15 h, List.length_append]
theorem len_le15 (ls : List (Value × List Int)) (j : Nat) : len15 (ls.take j) ≤ len15 ls := by
  have h : cat15 ls = cat15 (ls.take j) ++ cat15 (ls.drop j) := by
    unfold cat15
    rw [← List.flatMap_append, List.take_append_drop]
  rw [← cat_len15 ls, h, List.length_append, cat_len15]
  omega
theorem Rows15.cell {w : World} {b : Nat} {ls : List (Value × List Int)} (h : Rows15 w b ls) {j : Nat} (hj : j < ls.length) : w.cell? ⟨b, j, none⟩ = some ls[j].1 := by
  rw [box_cell h.at' j]
  simp [hj]
theorem Rows15.below {w w' : World} {b : Nat} {ls : List (Value × List Int)} (h : Rows15 w b ls) (hb : Below w.heap.size w w') : Rows15 w' b ls :=
  ⟨box_below h.at' hb, fun p hp => (h.all p hp).below hb (Nat.le_refl _)⟩

set_option maxRecDepth 100000 in
set_option maxHeartbeats 4000000 in
theorem concat15_any (b : Nat) (ls : List (Value × List Int)) (w : World) (h : Rows15 w b ls) (hl : len15 ls ≤ 100000) (hn : ls.length ≤ 100) :
    Calls Try.prog 35 #[.slice (some ⟨b, 0, none⟩) ls.length ls.length] w fun e w' => ∃ v, e = .returned v ∧ OwnsI w' w.heap.size v (cat15 ls) ∧ Below w.heap.size w w' := by
  have hblt := box_lt h.at'
  obtain ⟨n, hnn⟩ : ∃ n, n = ls.length := ⟨_, rfl⟩
  rw [← hnn] at hn ⊢
  go_enter Try.func35, Try.ntmps35
  go_wp2
  go_loopw [3, 11] (fun s3 s11 wr => ∃ j k : Nat, j ≤ n ∧ s11 = .int .i64 j ∧ s3 = .int .i64 (len15 (ls.take j) : Nat) ∧ wr = w.drewN k) (fun _ s11 _ => n - (intOf s11).toNat)
  case atStart => exact ⟨0, 0, by omega, rfl, rfl, rfl⟩
  case round =>
    obtain ⟨j, k, hj, rfl, rfl, rfl⟩ := hrel
    by_cases hlt : j < n
    · have hlt' : j < ls.length := by omega
      have hc := h.cell hlt'
      have hS := len_take15 hlt'
      have hle := len_le15 ls (j + 1)
      obtain ⟨p, c, hv, -⟩ := h.all _ (List.getElem_mem hlt')
      rw [hv] at hc
      have hj1 : (j : Int) < (n : Int) := by omega
      generalize ls[j].2.length = m at *
      have hS' : Hid (((len15 (ls.take (j + 1)) : Nat) : Int) = (len15 (ls.take j) : Int) + (m : Int)) := (by omega : ((len15 (ls.take (j + 1)) : Nat) : Int) = (len15 (ls.take j) : Int) + (m : Int))
      have hm : len15 (ls.take j) + m ≤ 100000 := by omega
      clear hv hle hS
      generalize len15 (ls.take j) = a0 at *
      go_wp2
      go_roundw
      case rel => exact ⟨j + 1, _, by omega, by go_num, by rw [hS'.out], rfl⟩
      case measure => simp only [intOf]; omega
    · obtain rfl : j = n := by omega
      have hall : len15 (ls.take j) = len15 ls := by rw [hnn, List.take_length]
      rw [hall]
      have hG := grow15_any (len15 ls) (w.drewN k) (by omega)
      go_wp2_with fail
      refine hG.mono ?_
      rintro e w1 ⟨v1, rfl, hO1, hb1⟩
      have hB1 : Below w.heap.size w w1 := (below_drew14 (Below.refl w.heap.size w)).trans hb1
      have hO : OwnsI w1 w.heap.size v1 [] := hO1
      clear hO1 hb1 hG
      go_wp2
      go_loopw [6, 27] (fun s6 s27 wr => ∃ (i : Nat) (u : Value), u = s6 ∧ i ≤ j ∧ s27 = .int .i64 i ∧ OwnsI wr w.heap.size u (cat15 (ls.take i)) ∧ Below w.heap.size w wr) (fun _ s27 _ => j - (intOf s27).toNat)
      case atStart => exact ⟨0, _, rfl, by omega, rfl, hO, hB1⟩
      case round =>
        clear hO hB1
        obtain ⟨i, u, hu, hi, rfl, hO, hB⟩ := hrel
        subst hu
        by_cases hlt : i < j
        · have hlt' : i < ls.length := by omega
          have hc := (h.below hB).cell hlt'
          have hH := (h.all _ (List.getElem_mem hlt')).below hB (Nat.le_refl _)
          have hC := cat_take15 hlt'
          have hle := len_le15 ls (i + 1)
          have hS := len_take15 hlt'
          have hcl := cat_len15 (ls.take i)
          generalize ls[i].2 = ys at *
          generalize ls[i].1 = y at *
          have hlen1 : (cat15 (ls.take i)).length ≤ 100000000000 := by omega
          have hlen2 : ys.length ≤ 100000000000 := by omega
          have hj1 : (i : Int) < (j : Int) := by omega
          have hsz := hB.size
          go_wp2_with (at_builtin; refine ap_ints14 _ rfl _ _ rfl w.heap.size _ _ ys rfl (by exact hH) (by exact hO) hlen1 hlen2 (by exact hsz) ?_; intro v3 w3 ho3 hb3)
          go_roundw
          case rel => exact ⟨i + 1, _, rfl, by omega, by go_num, by rw [hC]; exact ho3, hB.trans hb3⟩
          case measure => simp only [intOf]; omega
        · obtain rfl : i = j := by omega
          have hall2 : ls.take i = ls := by rw [hnn, List.take_length]
          rw [hall2] at hO
          obtain ⟨p9, c9, rfl, -, -, -⟩ := id hO.has
          go_wp2
          go_ret
          exact ⟨_, rfl, hO, hB⟩
end Go.Proofs.Ytkocomfcjklgcaa
