import Derived.Test.YtkocomfcjklgcaaCgB
import Derived.Test.YtkocomfcjklgcaaEn5To
import Derived.Shelf.SlicesE.DeleteFunc
import Derived.Ground.SlgfProg
import Derived.Deep.RegionHeld3
import Derived.Shelf.Slices.SearchI
import Derived.Shelf.Slices.Empties
import Derived.Ground.Names2Prog
namespace Go.Proofs.Ytkocomfcjklgcaa
open Go.RowKit Go.Shelf Go.Sort Go.Lib
theorem compact_up15 (d : Array Int) (hs : ∀ i j, i < j → j < d.size → d[i]! ≤ d[j]!) : ∀ m, m ≤ d.size → (compactUpTo d m).Pairwise (· < ·) ∧ ∀ x, x ∈ compactUpTo d m ↔ ∃ j, j < m ∧ d[j]! = x
  | 0, _ => ⟨List.Pairwise.nil, fun x => ⟨(fun h => by cases h), (fun ⟨j, h, _⟩ => by omega)⟩⟩
  | m + 1, h => by
    obtain ⟨h1, h2⟩ := compact_up15 d hs m (by omega)
    rw [compactUpTo_succ]
    by_cases hk : keeps d m = true
    · rw [if_pos hk]
      have hk' : m = 0 ∨ d[m]! ≠ d[m - 1]! := by unfold keeps at hk; exact of_decide_eq_true hk
      refine ⟨List.pairwise_append.2 ⟨h1, List.pairwise_singleton _ _, fun x hx y hy => ?_⟩, fun x => ?_⟩
      · obtain rfl := List.mem_singleton.1 hy
        obtain ⟨j, hj, rfl⟩ := (h2 x).1 hx
        have hm := hk'.resolve_left (by omega)
        have e1 : d[m - 1]! ≤ d[m]! := hs (m - 1) m (by omega) (by omega)
        have e2 : d[j]! ≤ d[m - 1]! := by
          by_cases e : j = m - 1
          · rw [e]; exact Int.le_refl _
          · exact hs j (m - 1) (by omega) (by omega)
        omega
      · rw [List.mem_append, h2, List.mem_singleton]
        constructor
        · rintro (⟨j, hj, e⟩ | e)
          · exact ⟨j, by omega, e⟩
          · exact ⟨m, by omega, e.symm⟩
        · rintro ⟨j, hj, e⟩
          by_cases hjm : j = m
          · rw [hjm] at e; exact .inr e.symm
          · exact .inl ⟨j, by omega, e⟩
    · rw [if_neg hk, List.append_nil]
      have hk' : ¬ (m = 0 ∨ d[m]! ≠ d[m - 1]!) := fun h => hk (by unfold keeps; exact decide_eq_true h)
      have hm0 : m ≠ 0 := fun h => hk' (.inl h)
      have hme : d[m]! = d[m - 1]! := Classical.byContradiction fun h => hk' (.inr h)
      refine ⟨h1, fun x => ?_⟩
      rw [h2]
      constructor
      · rintro ⟨j, hj, e⟩
        exact ⟨j, by omega, e⟩
      · rintro ⟨j, hj, e⟩
        by_cases hjm : j = m
        · rw [hjm, hme] at e; exact ⟨m - 1, by omega, e⟩
        · exact ⟨j, by omega, e⟩
theorem set_all15 (l : List Int) : (set15 l).Pairwise (· < ·) ∧ ∀ x, x ∈ set15 l ↔ x ∈ l := by
  have hp := List.mergeSort_perm l fun x y => decide (x ≤ y)
  have hs : (l.mergeSort fun x y => decide (x ≤ y)).Pairwise fun x y => decide (x ≤ y) = true :=
    List.pairwise_mergeSort (fun a b c h1 h2 => by simp only [decide_eq_true_eq] at *; omega) (fun a b => by simp only [Bool.or_eq_true, decide_eq_true_eq]; omega) l
  unfold set15 compact
  generalize (l.mergeSort fun x y => decide (x ≤ y)) = k at *
  have hat : ∀ j, j < k.length → k.toArray[j]! = k.getD j 0 := fun j hj => by
    rw [getElem!_pos _ j (by simpa using hj)]
    simp [List.getD_eq_getElem?_getD, hj]
  obtain ⟨h1, h2⟩ := compact_up15 k.toArray (fun i j hij hj => by
    have hj' : j < k.length := by simpa using hj
    rw [hat i (by omega), hat j hj', List.getD_eq_getElem?_getD, List.getD_eq_getElem?_getD, List.getElem?_eq_getElem (show i < k.length by omega), List.getElem?_eq_getElem hj']
    exact of_decide_eq_true (List.pairwise_iff_getElem.1 hs i j (by omega) hj' hij)) k.length (by simp)
  refine ⟨h1, fun x => ?_⟩
  rw [h2, ← hp.mem_iff, List.mem_iff_getElem]
  constructor
  · rintro ⟨j, hj, e⟩
    rw [hat j hj, List.getD_eq_getElem?_getD, List.getElem?_eq_getElem hj] at e
    exact ⟨j, hj, e⟩
  · rintro ⟨j, hj, e⟩
    refine ⟨j, hj, ?_⟩
    rw [hat j hj, List.getD_eq_getElem?_getD, List.getElem?_eq_getElem hj]
    exact e
theorem set_up15 (l : List Int) : (set15 l).Pairwise (· < ·) := (set_all15 l).1
theorem mem_set15 {l : List Int} {x : Int} : x ∈ set15 l ↔ x ∈ l := (set_all15 l).2 x
theorem up_ext15 : ∀ {l k : List Int}, l.Pairwise (· < ·) → k.Pairwise (· < ·) → (∀ x, x ∈ l ↔ x ∈ k) → l = k
  | [], [], _, _, _ => rfl
  | [], y :: k, _, _, h => by have := (h y).2 List.mem_cons_self; cases this
  | x :: l, [], _, _, h => by have := (h x).1 List.mem_cons_self; cases this
  | x :: l, y :: k, hl, hk, h => by
    obtain ⟨l1, l2⟩ := List.pairwise_cons.1 hl
    obtain ⟨k1, k2⟩ := List.pairwise_cons.1 hk
    have hxy : x = y := by
      rcases List.mem_cons.1 ((h x).1 List.mem_cons_self) with e | e
      · exact e
      rcases List.mem_cons.1 ((h y).2 List.mem_cons_self) with e2 | e2
      · exact e2.symm
      have := k1 x e
      have := l1 y e2
      omega
    subst hxy
    rw [up_ext15 l2 k2 fun z => ?_]
    constructor
    · intro hz
      rcases List.mem_cons.1 ((h z).1 (List.mem_cons_of_mem _ hz)) with e | e
      · have := l1 z hz; omega
      · exact e
    · intro hz
      rcases List.mem_cons.1 ((h z).2 (List.mem_cons_of_mem _ hz)) with e | e
      · have := k1 z hz; omega
      · exact e
theorem set_same15 {l : List Int} (h : l.Pairwise (· < ·)) : set15 l = l := up_ext15 (set_up15 l) h fun _ => mem_set15
theorem set_len15 (l : List Int) : (set15 l).length ≤ l.length := by
  have h := compact_length_le (l.mergeSort fun x y => decide (x ≤ y))
  rwa [List.length_mergeSort] at h
def keep15 (l : List Int) (n : Int) (b : Bool) : List Int := if b then set15 (l ++ [n]) else without15 (set15 l) n
theorem keep_in15 {l : List Int} {n : Int} (h : Ris15 l) (hn : 1 ≤ n ∧ n ≤ 9) (hm : n ∉ l) : keep15 l n true = with15 l n := by
  show set15 (l ++ [n]) = with15 l n
  exact up_ext15 (set_up15 _) (Ris15.withOne hn h hm).up fun x => by
    rw [mem_set15, mem_with15, List.mem_append, List.mem_singleton]
    exact Or.comm
theorem keep_out15 {l : List Int} (h : Ris15 l) (n : Int) : keep15 l n false = without15 l n := by
  unfold keep15
  rw [if_neg (by decide), set_same15 h.up]
shelf_lay_g SlLaysH.n10 Slgf 10 at Try 33 as Try.delIL
theorem zeroI15 (w : World) : (zeroValue 3).run Try.prog w = .ok (.int .i64 0) w := by kernel_rfl

theorem gives15 (n x : Int) (b : Nat) (W : World) (hc : W.cell? ⟨b, 0, none⟩ = some (.int .i64 n)) : FnGives Try.prog 34 #[.pointer (some ⟨b, 0, none⟩)] #[.int .i64 x] (.bool (decide (x = n))) W := by
  show Calls Try.prog 34 #[.int .i64 x, .pointer (some ⟨b, 0, none⟩)] W _
  go_enter Try.func34, Try.ntmps34
  go_wp2
  go_ret
  exact ⟨by by_cases h : x = n <;> simp [h], 0, rfl⟩
theorem indexF0_any (p : Option Addr) (c : Nat) (f : Value) (w : World) : Calls Try.prog 43 #[.slice p 0 c, f] w fun e w' => e = .returned (.int .i64 (-1)) ∧ ∃ k, w' = w.drewN k := by
  go_enter Try.func43, Try.ntmps43
  go_wp2
  go_loopw [8] (fun s wr => s = .int .i64 0 ∧ ∃ k, wr = w.drewN k) (fun _ _ => 0)
  case atStart => exact ⟨rfl, 0, rfl⟩
  case round =>
    obtain ⟨rfl, k, rfl⟩ := hrel
    go_wp2
    go_ret
    exact ⟨rfl, _, rfl⟩
theorem delI_any (B : Nat) (v : Value) (l : List Int) (n : Int) (b : Nat) (w : World) (h : OwnsI w B v l) (hl : l.length ≤ 1099511627776) (hb : w.cell? ⟨b, 0, none⟩ = some (.int .i64 n)) (hbl : b < w.heap.size) (hne : ∀ k, v.ownBlock = some k → b ≠ k) :
    Calls Try.prog 33 #[v, .func (.func 34) #[] #[.pointer (some ⟨b, 0, none⟩)]] w fun e w' => ∃ v', e = .returned v' ∧ OwnsI w' B v' (without15 l n) ∧ w.grownBy w' v.ownBlock := by
  have hgr : ∀ k r, w.grownBy (w.drewN k) r := fun k r => ⟨rfl, rfl, rfl, Nat.le_refl _, fun _ _ _ => rfl⟩
  rcases id h.2 with ⟨hv, hn⟩ | ⟨g, cap, cur, hv, hB, hg, hnc, hcm, hcs, htake⟩
  · have h0 := List.eq_nil_of_length_eq_zero hn
    subst h0
    subst hv
    have hk := indexF0_any none 0 (.func (.func 34) #[] #[.pointer (some ⟨b, 0, none⟩)]) w
    go_enter Try.func33, Try.ntmps33
    go_wp2_with fail
    refine hk.mono ?_
    rintro e w1 ⟨rfl, k, rfl⟩
    clear hk
    go_wp2
    go_ret
    exact ⟨_, rfl, OwnsI.nil _ _, hgr _ _⟩
  · have hH : Sort.Holds (Value.int .i64) w g 0 l.toArray := by rw [hv] at h; exact h.holds15 ⟨_, hg⟩
    have hbg : b ≠ g := hne g (by rw [hv]; rfl)
    have eg : ∀ args w, (callFunc 34 args).run Try.prog w = .ok (.enter 34 args) w := enters_of Try.func34 (by kernel_rfl) rfl
    have hc := AnyE.slices_DeleteFunc Try.delIL (Value.int .i64) (fun _ => rfl) (fun x => decide (x = n)) 34 #[.pointer (some ⟨b, 0, none⟩)] eg 0 zeroI15 g 0 cap l.toArray w
      (fun W x hbw => gives15 n x b W ((hbw.cell (p := ⟨b, 0, none⟩) hbl).trans hb))
      (fun m os dk x _ => gives15 n x b _ (by
        unfold sortWorld
        rw [cell?_grow _ _ _ (by show b < (putRow _ _ _ _ _).heap.size; rw [size_putRow]; exact hbl), cell?_putRow_other _ _ g 0 _ _ (Or.inl hbg)]
        exact hb)) hH (by simp; omega) (by simpa using hnc)
    change Calls Try.prog 33 _ _ _ at hc
    rw [show l.toArray.size = l.length from by simp, show l.toArray.toList = l from rfl] at hc
    rw [hv]
    refine hc.mono ?_
    rintro e w' ⟨rfl, q, rfl⟩
    have hle : (without15 l n).length ≤ l.length := List.length_filter_le _ _
    obtain ⟨h1, h2⟩ := put_owns15 (q := q) (without15 l n) (List.replicate (l.length - (without15 l n).length) 0) hB hg (by rw [List.length_append, List.length_replicate]; omega) hcm hcs
    exact ⟨_, rfl, h1, h2⟩
theorem Rows15.lit (w : World) (ls : List (Value × List Int)) (h : ∀ p ∈ ls, HasI w p.1 p.2) : Rows15 (w.alloc (.cells (ls.map Prod.fst).toArray 22)) w.heap.size ls :=
  ⟨heap_alloc_new w _, fun p hp => (h p hp).below ((Below.refl w.heap.size w).alloc (Nat.le_refl _) _) (Nat.le_refl _)⟩

set_option maxRecDepth 100000 in
set_option maxHeartbeats 2000000 in
theorem keep_any (v : Value) (xs : List Int) (n : Int) (b : Bool) (w : World) (h : HasI w v xs) (hl : xs.length ≤ 50000) :
    Calls Try.prog 23 #[v, .int .i64 n, .bool b] w fun e w' => ∃ v', e = .returned v' ∧ OwnsI w' w.heap.size v' (keep15 xs n b) ∧ Below w.heap.size w w' := by
  obtain ⟨p, c, rfl, -⟩ := h.parts14
  have s1 : (w.alloc (.cells #[.int .i64 n] 3)).heap.size = w.heap.size + 1 := by simp
  have b1 : Below w.heap.size w (w.alloc (.cells #[.int .i64 n] 3)) := (Below.refl _ _).alloc (Nat.le_refl _) _
  cases b with
  | true =>
    have hL : HasI ((w.alloc (.cells #[.int .i64 n] 3)).alloc (.cells #[.int .i64 n] 3)) (.slice (some ⟨w.heap.size + 1, 0, none⟩) 1 1) [n] := by
      have := HasI.lit (w.alloc (.cells #[.int .i64 n] 3)) [n] 3
      rwa [s1] at this
    have s2 : ((w.alloc (.cells #[.int .i64 n] 3)).alloc (.cells #[.int .i64 n] 3)).heap.size = w.heap.size + 1 + 1 := by simp
    have b2 : Below w.heap.size w ((w.alloc (.cells #[.int .i64 n] 3)).alloc (.cells #[.int .i64 n] 3)) := b1.alloc (by simp) _
    have hR := Rows15.lit ((w.alloc (.cells #[.int .i64 n] 3)).alloc (.cells #[.int .i64 n] 3)) [(.slice p xs.length c, xs), (.slice (some ⟨w.heap.size + 1, 0, none⟩) 1 1, [n])] (fun q hq => by
      rcases List.mem_cons.1 hq with rfl | hq
      · exact h.below b2 (Nat.le_refl _)
      · obtain rfl := List.mem_singleton.1 hq
        exact hL)
    rw [s2] at hR
    simp only [List.map_cons, List.map_nil] at hR
    have hk := rising_any _ _ _ hR (by simp [len15]; omega) (by simp)
    have hcat : cat15 [(Value.slice p xs.length c, xs), (.slice (some ⟨w.heap.size + 1, 0, none⟩) 1 1, [n])] = xs ++ [n] := by simp [cat15]
    rw [hcat] at hk
    have b3 : Below w.heap.size w (((w.alloc (.cells #[.int .i64 n] 3)).alloc (.cells #[.int .i64 n] 3)).alloc (.cells #[.slice p xs.length c, .slice (some ⟨w.heap.size + 1, 0, none⟩) 1 1] 22)) := b2.alloc (by rw [s2]; omega) _
    have s3 := b3.size
    clear hR hL hcat s1 s2 b1 b2 h
    have HK : Hid (keep15 xs n true = set15 (xs ++ [n])) := rfl
    generalize keep15 xs n true = R at *
    go_enter Try.func23, Try.ntmps23
    go_wp2_with fail
    refine hk.mono ?_
    rintro e w1 ⟨v1, rfl, hO1, hb1⟩
    have hB := b3.trans (hb1.mono s3)
    have hO := hO1.mono s3
    rw [← HK.out] at hO
    clear hk hO1 hb1 b3 s3 HK
    obtain ⟨p9, c9, rfl, -, -, -⟩ := id hO.has
    go_wp2
    go_ret
    exact ⟨_, rfl, hO, hB⟩
  | false =>
    have hR := Rows15.lit (w.alloc (.cells #[.int .i64 n] 3)) [(.slice p xs.length c, xs)] (fun q hq => by
      obtain rfl := List.mem_singleton.1 hq
      exact h.below b1 (Nat.le_refl _))
    rw [s1] at hR
    simp only [List.map_cons, List.map_nil] at hR
    have hk := rising_any _ _ _ hR (by simp [len15]; omega) (by simp)
    have hcat : cat15 [(Value.slice p xs.length c, xs)] = xs := by simp [cat15]
    rw [hcat] at hk
    have b3 : Below w.heap.size w ((w.alloc (.cells #[.int .i64 n] 3)).alloc (.cells #[.slice p xs.length c] 22)) := b1.alloc (by simp) _
    have s3 := b3.size
    have hcell : ((w.alloc (.cells #[.int .i64 n] 3)).alloc (.cells #[.slice p xs.length c] 22)).cell? ⟨w.heap.size, 0, none⟩ = some (.int .i64 n) := by simp
    have hsz : ((w.alloc (.cells #[.int .i64 n] 3)).alloc (.cells #[.slice p xs.length c] 22)).heap.size = w.heap.size + 1 + 1 := by simp
    clear hR hcat s1 b1 h
    have hsl := set_len15 xs
    have HK : Hid (keep15 xs n false = without15 (set15 xs) n) := rfl
    generalize keep15 xs n false = R at *
    go_enter Try.func23, Try.ntmps23
    go_wp2_with fail
    refine hk.mono ?_
    rintro e w1 ⟨v1, rfl, hO1, hb1⟩
    have hB := b3.trans (hb1.mono s3)
    have hc1 := (hb1.cell (p := ⟨w.heap.size, 0, none⟩) (by show w.heap.size < _; omega)).trans hcell
    have hD := delI_any _ v1 _ n w.heap.size w1 hO1 (by omega) hc1 (by have := hb1.size; omega) (fun k hk => by have := (World.ownsRow.lt hO1 k hk).1; omega)
    have hw1 : ∀ k, v1.ownBlock = some k → w.heap.size ≤ k := fun k hk => by have := (World.ownsRow.lt hO1 k hk).1; omega
    rw [← HK.out] at hD
    clear hk hO1 hb1 b3 HK hcell hc1
    go_wp2_with fail
    refine hD.mono ?_
    rintro e w2 ⟨v2, rfl, hO2, hg2⟩
    have hB2 := hB.grown hg2 hB.size hw1
    have hO := hO2.mono s3
    clear hD hg2 hO2 hB hw1
    obtain ⟨p9, c9, rfl, -, -, -⟩ := id hO.has
    go_wp2
    go_ret
    exact ⟨_, rfl, hO, hB2⟩
end Go.Proofs.Ytkocomfcjklgcaa

namespace Go.Proofs.Ytkocomfcjklgcaa
open Go.RowKit Go.Shelf
theorem has15_any (v : Value) (xs : List Int) (x : Int) (w : World) (h : HasI w v xs) (hl : xs.length ≤ 17592186044416) :
    Calls Try.prog 19 #[v, .int .i64 x] w fun e w' => e = .returned (.bool (hasI10 xs x)) ∧ w' = w := by
  obtain ⟨p, c, rfl, -⟩ := h.parts14
  have hk := containsI_any p _ c xs x w h hl
  clear h
  generalize hasI10 xs x = r at *
  go_enter Try.func19, Try.ntmps19
  go_wp2_with fail
  refine same_mono hk ?_
  go_wp2
  go_ret
  exact ⟨rfl, rfl⟩
def adds15 (k : Int) : Bool := decide (k = 1 ∨ k = 2)
theorem adds15_any (k : Int) (w : World) : Calls Try.prog 27 #[.int .i64 k] w fun e w' => e = .returned (.bool (adds15 k)) ∧ w' = w := by
  by_cases h1 : k = 1
  · subst h1
    go_enter Try.func27, Try.ntmps27
    go_wp2
    go_ret
    exact ⟨rfl, rfl⟩
  · have h1' : (k == 1) = false := beq_eq_false_iff_ne.2 h1
    by_cases h2 : k = 2
    · subst h2
      go_enter Try.func27, Try.ntmps27
      go_wp2
      go_ret
      exact ⟨rfl, rfl⟩
    · have h2' : (k == 2) = false := beq_eq_false_iff_ne.2 h2
      have hr : adds15 k = false := decide_eq_false (by omega)
      rw [hr]
      go_enter Try.func27, Try.ntmps27
      go_wp2
      go_ret
      exact ⟨rfl, rfl⟩
theorem undo15_any (k : Int) (w : World) : Calls Try.prog 13 #[.int .i64 k] w fun e w' => e = .returned (.int .i64 (undo15 k)) ∧ w' = w := by
  have hk := adds15_any k w
  by_cases h : k = 1 ∨ k = 2
  · have hr : adds15 k = true := decide_eq_true h
    have hu : undo15 k = 4 := if_pos h
    rw [hr] at hk
    rw [hu]
    clear hr hu h
    go_enter Try.func13, Try.ntmps13
    go_wp2_with fail
    refine same_mono hk ?_
    go_wp2
    go_ret
    exact ⟨rfl, rfl⟩
  · have hr : adds15 k = false := decide_eq_false h
    have hu : undo15 k = 0 := if_neg h
    rw [hr] at hk
    rw [hu]
    clear hr hu h
    go_enter Try.func13, Try.ntmps13
    go_wp2_with fail
    refine same_mono hk ?_
    go_wp2
    go_ret
    exact ⟨rfl, rfl⟩
def code15 (g : Bool) (k n : Int) (a l one : Bool) : Nat :=
  if g = false ∨ k < 1 ∨ 4 < k ∨ n < 1 ∨ 9 < n then 2
  else if k ≤ 2 ∧ (a = true ∨ l = true) then 5
  else if k = 1 then 0
  else if k = 2 then 0
  else if k = 3 ∧ l = false ∨ k = 4 ∧ a = false ∧ l = false then 4
  else if k = 3 then 0
  else if a = true ∧ one = true then 2
  else 0
theorem code_is15 (c : Conf10) (k n : Int) : (change15 c k n).2 = code15 (goodF10 c) k n (hasI10 c.vs n) (hasI10 c.ls n) (decide (c.vs.length = 1)) := by
  have e1 : (hasI10 c.vs n = true) = (n ∈ c.vs) := propext hasI_iff15
  have e2 : (hasI10 c.ls n = true) = (n ∈ c.ls) := propext hasI_iff15
  have e3 : (hasI10 c.vs n = false) = (n ∉ c.vs) := by rw [← e1]; simp
  have e4 : (hasI10 c.ls n = false) = (n ∉ c.ls) := by rw [← e2]; simp
  have e5 : (decide (c.vs.length = 1) = true) = (c.vs.length = 1) := decide_eq_true_eq
  unfold change15 code15
  simp only [e1, e2, e3, e4, e5]
  split
  · rfl
  split
  · rfl
  split
  · rfl
  split
  · rfl
  split
  · rfl
  split
  · rfl
  split
  · rfl
  · rfl

theorem keepK15 {w w1 w2 : World} {b : Nat} {x y : Value} (hb : Below w1.heap.size w1 w2) (h : w1.cell? ⟨b, 0, none⟩ = some x ∧ w1.cell? ⟨b, 1, none⟩ = some y ∧ Below w.heap.size w w1 ∧ b < w1.heap.size) :
    w2.cell? ⟨b, 0, none⟩ = some x ∧ w2.cell? ⟨b, 1, none⟩ = some y ∧ Below w.heap.size w w2 ∧ b < w2.heap.size := by
  obtain ⟨h0, h1, hw, hz⟩ := h
  exact ⟨(hb.cell (p := ⟨b, 0, none⟩) hz).trans h0, (hb.cell (p := ⟨b, 1, none⟩) hz).trans h1, hw.trans (hb.mono hw.size), Nat.lt_of_lt_of_le hz hb.size⟩
theorem heldK15 {w w1 : World} {b : Nat} {x y : Value} (h : w1.cell? ⟨b, 0, none⟩ = some x ∧ w1.cell? ⟨b, 1, none⟩ = some y ∧ Below w.heap.size w w1 ∧ b < w1.heap.size) : Below w.heap.size w w1 := h.2.2.1

set_option maxRecDepth 100000 in
set_option maxHeartbeats 4000000 in
theorem refused_any (x : ConfV) (k n : Int) (w : World) (h : FitsF w x) :
    Calls Try.prog 22 #[.agg x.arr, .int .i64 k, .int .i64 n] w fun e w' => e = .returned (.int .i64 ((change15 x.f k n).2 : Nat)) ∧ Below w.heap.size w w' := by
  rw [code_is15]
  have hB1 : Below w.heap.size w (w.alloc (.cells x.arr 24)) := (Below.refl _ _).alloc (Nat.le_refl _) _
  have hC1 : ConfAt (w.alloc (.cells x.arr 24)) w.heap.size x := heap_alloc_new w _
  have kg := goodConf_any x _ (h.below hB1)
  have hlen := h.u.len.1
  have lu := h.lu
  have ka := fun W (hb : Below w.heap.size w W) => has15_any _ _ n W (h.below hb).u h.lu
  have kl := fun W (hb : Below w.heap.size w W) => has15_any _ _ n W (h.below hb).v h.lv
  have kk := adds15_any k
  rw [hlen]
  generalize hasI10 x.f.vs n = a at *
  generalize hasI10 x.f.ls n = l at *
  generalize goodF10 x.f = g at *
  obtain ⟨⟨p, u, c⟩, ⟨q, v, d⟩, f⟩ := x
  unfold ConfV.arr at *
  dsimp only at *
  by_cases h0 : g = false ∨ k < 1 ∨ 4 < k ∨ n < 1 ∨ 9 < n
  · have hr : code15 g k n a l (decide (u = 1)) = 2 := by unfold code15; rw [if_pos h0]
    rw [hr]
    clear hr h ka kl kk hlen
    cases g with
    | false =>
      go_enter Try.func22, Try.ntmps22
      go_wp2_with fail
      refine kg.mono ?_
      rintro e w1 ⟨rfl, hb1⟩
      go_wp2
      go_ret
      exact ⟨rfl, hB1.trans (hb1.mono hB1.size)⟩
    | true =>
      rcases (show k < 1 ∨ (¬ k < 1 ∧ 4 < k) ∨ (¬ k < 1 ∧ ¬ 4 < k ∧ n < 1) ∨ (¬ k < 1 ∧ ¬ 4 < k ∧ ¬ n < 1 ∧ 9 < n) by have := h0.resolve_left (by decide); omega) with e1 | ⟨e1, e2⟩ | ⟨e1, e2, e3⟩ | ⟨e1, e2, e3, e4⟩
      all_goals
        clear h0
        go_enter Try.func22, Try.ntmps22
        go_wp2_with fail
        refine kg.mono ?_
        rintro e w1 ⟨rfl, hb1⟩
        go_wp2
        go_ret
        exact ⟨rfl, hB1.trans (hb1.mono hB1.size)⟩
  · have hg : g = true := by cases g <;> simp_all
    have e1 : ¬ k < 1 := fun h => h0 (.inr (.inl h))
    have e2 : ¬ 4 < k := fun h => h0 (.inr (.inr (.inl h)))
    have e3 : ¬ n < 1 := fun h => h0 (.inr (.inr (.inr (.inl h))))
    have e4 : ¬ 9 < n := fun h => h0 (.inr (.inr (.inr (.inr h))))
    obtain ⟨R, hR⟩ : ∃ R, R = code15 g k n a l (decide (u = 1)) := ⟨_, rfl⟩
    rw [← hR]
    have HR : Hid (R = code15 g k n a l (decide (u = 1))) := hR
    have H0 : Hid (¬ (g = false ∨ k < 1 ∨ 4 < k ∨ n < 1 ∨ 9 < n)) := h0
    clear hR h0 h hlen
    subst hg
    go_enter Try.func22, Try.ntmps22
    go_wp2_with fail
    refine kg.mono ?_
    rintro e w1 ⟨rfl, hb1⟩
    have hB2 := hB1.trans (hb1.mono hB1.size)
    have hC2 := box_below hC1 hb1
    have s0 : w1.drew.cell? ⟨w.heap.size, 0, none⟩ = some (.slice p u c) ∧ w1.drew.cell? ⟨w.heap.size, 1, none⟩ = some (.slice q v d) ∧ Below w.heap.size w w1.drew ∧ w.heap.size < w1.drew.heap.size := ⟨box_cell hC2 0, box_cell hC2 1, ⟨hB2.os, hB2.tape, hB2.output, hB2.size, hB2.block⟩, box_lt hC2⟩
    clear hB1 hC1 hb1 kg hC2 hB2
    go_wp2_with fail
    go_region_held3 (fun W => W.cell? ⟨w.heap.size, 0, none⟩ = some (.slice p u c) ∧ W.cell? ⟨w.heap.size, 1, none⟩ = some (.slice q v d) ∧ Below w.heap.size w W ∧ w.heap.size < W.heap.size)
      (first | exact s0 | exact keepK15 (by assumption) (by assumption))
      (first
        | (go_at_call 19; refine same_mono (ka _ (heldK15 (by assumption))) ?_)
        | (go_at_call 19; refine same_mono (kl _ (heldK15 (by assumption))) ?_))
    go_wp2_with fail
    refine same_mono (kk _) ?_
    clear ka kl kk s0
    rcases (show k = 1 ∨ k = 2 ∨ k = 3 ∨ k = 4 by omega) with rfl | rfl | rfl | rfl
    case' inr.inr.inr =>
      by_cases h1 : (u : Int) = 1
      case' pos => have h3 : decide (u = 1) = true := decide_eq_true (by omega)
      case' neg => have h3 : decide (u = 1) = false := decide_eq_false (by omega)
      case' pos => have h2 : (((u : Int)) == 1) = true := beq_iff_eq.2 h1
      case' neg => have h2 : (((u : Int)) == 1) = false := beq_eq_false_iff_ne.2 h1
      all_goals rw [h3] at HR
    all_goals
      cases a
      all_goals
        cases l
        all_goals
          have HR2 := HR.out
          unfold code15 at HR2
          rw [if_neg H0.out] at HR2
          simp only [Bool.false_eq_true, Bool.true_eq_false, or_self, or_true, and_self, and_true, and_false, false_and, true_and, or_false, if_true, if_false, Int.reduceEq, Int.reduceLE] at HR2
          subst HR2
          go_wp2
          all_goals
            go_ret
            refine ⟨?_, heldK15 (by assumption)⟩
            first
              | rfl
              | (exact absurd rfl (by assumption))
              | (exact absurd (by assumption) (by decide))
theorem Ris15.room : ∀ {l : List Int} {a : Int}, l.Pairwise (· < ·) → (∀ x ∈ l, a ≤ x ∧ x ≤ 9) → a ≤ 10 → (l.length : Int) ≤ 10 - a
  | [], a, _, _, h => by simp; omega
  | x :: l, a, hp, hb, _ => by
    obtain ⟨h1, h2⟩ := List.pairwise_cons.1 hp
    have hx := hb x List.mem_cons_self
    have := Ris15.room (a := x + 1) h2 (fun y hy => ⟨by have := h1 y hy; omega, (hb y (List.mem_cons_of_mem _ hy)).2⟩) (by omega)
    simp only [List.length_cons]
    omega
theorem Ris15.len {l : List Int} (h : Ris15 l) : l.length ≤ 9 := by
  have := Ris15.room h.up h.lo (by omega)
  omega
theorem Ris15.inn {l : List Int} (h : Ris15 l) : inL l := fun x hx => by have := h.lo x hx; unfold inI; omega

structure OwnsF15 (w : World) (B : Nat) (x : ConfV) : Prop where
  u : OwnsI w B (.slice x.u.p x.u.n x.u.c) x.f.vs
  v : OwnsI w B (.slice x.v.p x.v.n x.v.c) x.f.ls
  iu : inL x.f.vs
  iv : inL x.f.ls
  lu : x.f.vs.length ≤ 1000
  lv : x.f.ls.length ≤ 1000
theorem OwnsF15.fits {w : World} {B : Nat} {x : ConfV} (h : OwnsF15 w B x) : FitsF w x := ⟨h.u.has, h.v.has, h.iu, h.iv, by have := h.lu; omega, by have := h.lv; omega⟩
theorem OwnsF15.mono {w : World} {B B' : Nat} {x : ConfV} (h : OwnsF15 w B x) (hB : B' ≤ B) : OwnsF15 w B' x := ⟨h.u.mono hB, h.v.mono hB, h.iu, h.iv, h.lu, h.lv⟩
theorem OwnsF15.below {w w' : World} {B : Nat} {x : ConfV} (h : OwnsF15 w B x) (hb : Below w.heap.size w w') : OwnsF15 w' B x := ⟨h.u.below hb (Nat.le_refl _), h.v.below hb (Nat.le_refl _), h.iu, h.iv, h.lu, h.lv⟩
theorem OwnsF15.nil (w : World) (B : Nat) : OwnsF15 w B noFV := ⟨OwnsI.nil w B, OwnsI.nil w B, (fun _ h => by cases h), (fun _ h => by cases h), Nat.zero_le _, Nat.zero_le _⟩
theorem OwnsI.cell15 {w : World} {B b : Nat} {u : Value} {xs : List Int} (h : OwnsI w B u xs) (hb : b < B) (i : Nat) (v : Value) : OwnsI (w.setCell ⟨b, i, none⟩ v) B u xs := by
  refine World.ownsRow.kept h (grown_set w b i v) ?_
  cases hv : u.ownBlock with
  | none => exact .inl rfl
  | some k =>
    have := (World.ownsRow.lt h k hv).1
    exact .inr (fun e => by cases e; omega)
theorem OwnsF15.cell {w : World} {B b : Nat} {x : ConfV} (h : OwnsF15 w B x) (hb : b < B) (i : Nat) (v : Value) : OwnsF15 (w.setCell ⟨b, i, none⟩ v) B x := ⟨h.u.cell15 hb i v, h.v.cell15 hb i v, h.iu, h.iv, h.lu, h.lv⟩
theorem set_block15 {w : World} {b : Nat} {c : Array Value} {t : TypeId} (h : w.heap[b]? = some (.cells c t (0, 0))) (i : Nat) (v : Value) (hi : i < c.size) : (w.setCell ⟨b, i, none⟩ v).heap[b]? = some (.cells (c.set i v hi) t (0, 0)) := by
  have hlt := (Array.getElem?_eq_some_iff.1 h).1
  have hg := (Array.getElem?_eq_some_iff.1 h).2
  simp only [World.setCell, Array.getElem?_modify, hlt, Array.getElem?_eq_getElem, hg]
  simp [Array.setIfInBounds, hi]
theorem frozen15 {w : World} {b : Nat} {c : Array Value} {t : TypeId} (h : w.heap[b]? = some (.cells c t (0, 0))) (j : Nat) : w.frozen? ⟨b, j, none⟩ = false := by
  simp [World.frozen?, h]
theorem ConfAt.put15 {w : World} {b : Nat} {x x' : ConfV} (h : ConfAt w b x) (i : Nat) (v : Value) (hi : i < 2) (hc : x'.arr = x.arr.set i v (by show i < 2; exact hi)) : ConfAt (w.setCell ⟨b, i, none⟩ v) b x' := by
  unfold ConfAt
  rw [hc]
  exact set_block15 h i v _
theorem fillF15 {w : World} {b : Nat} {x0 : ConfV} (h : ConfAt w b x0) (p : Option Addr) (n : Nat) (c : Nat) (q : Option Addr) (m : Nat) (d : Nat) (f : Conf10) : ConfAt ((w.setCell ⟨b, 0, none⟩ (.slice p n c)).setCell ⟨b, 1, none⟩ (.slice q m d)) b ⟨⟨p, n, c⟩, ⟨q, m, d⟩, f⟩ := by
  obtain ⟨⟨p0_, n0_, c0_⟩, ⟨q0_, m0_, d0_⟩, f0_⟩ := x0
  exact ((h.put15 (x' := ⟨⟨p, n, c⟩, ⟨q0_, m0_, d0_⟩, f⟩) 0 _ (by decide) rfl).put15 (x' := ⟨⟨p, n, c⟩, ⟨q, m, d⟩, f⟩) 1 _ (by decide) rfl)
theorem ret15 {P : Program} {fn : Func} {p u : Tmp} {ty : TypeId} (h : fn.results = #[.cell p ty, .tmp u]) (tmps : Array Value) (w : World) (g : Nat) (t : TypeId) (cs : Array Value) (fr : Nat × Nat) (d : TypeDesc)
    (hp : tmps.getD p undef = .pointer (some ⟨g, 0, none⟩)) (hg : w.heap[g]? = some (.cells cs t fr))
    (hu : P.underlying ty = some d) (hd : (match d with | .struct _ | .array _ _ => true | _ => false) = true) (hi : (P.info? ty).map (·.size) = some cs.size) :
    (results fn tmps).run P w = .ok (.tuple #[.agg cs, tmps.getD u undef]) w := by
  rw [results_cell_tmp h, hp]
  simp [asAddr, run_loadVar_row w g t ty cs fr d hg hu hd hi, Result.andThen]

theorem change_keep15 {c : Conf10} {k n : Int} (h : (change15 c k n).2 = 0) : Good15 c ∧ (change15 c k n).1 = ⟨keep15 c.vs n (decide (k = 1 ∨ k = 3)), keep15 c.ls n (decide (k = 2))⟩ ∧ Good15 (change15 c k n).1 ∧ 1 ≤ k ∧ k ≤ 4 := by
  obtain ⟨hG, hn, hS⟩ := change_good15 (d := (change15 c k n).1) (by rw [← h])
  refine ⟨hG, ?_, hS.good hG hn, ?_⟩
  all_goals generalize (change15 c k n).1 = d at *
  case refine_2 => cases hS <;> omega
  cases hS with
  | voter e1 e2 e3 =>
    subst e1
    rw [show decide ((1 : Int) = 1 ∨ (1 : Int) = 3) = true from rfl, show decide ((1 : Int) = 2) = false from rfl, keep_in15 hG.vs hn e2, keep_out15 hG.ls, without_none15 e3]
  | learner e1 e2 e3 =>
    subst e1
    rw [show decide ((2 : Int) = 1 ∨ (2 : Int) = 3) = false from rfl, show decide ((2 : Int) = 2) = true from rfl, keep_in15 hG.ls hn e3, keep_out15 hG.vs, without_none15 e2]
  | promote e1 e2 e3 =>
    subst e1
    rw [show decide ((3 : Int) = 1 ∨ (3 : Int) = 3) = true from rfl, show decide ((3 : Int) = 2) = false from rfl, keep_in15 hG.vs hn e2, keep_out15 hG.ls]
  | away e1 e2 e3 e4 =>
    subst e1
    rw [show decide ((4 : Int) = 1 ∨ (4 : Int) = 3) = false from rfl, show decide ((4 : Int) = 2) = false from rfl, keep_out15 hG.vs, keep_out15 hG.ls, without_none15 e3]
  | gone e1 e2 e3 =>
    subst e1
    rw [show decide ((4 : Int) = 1 ∨ (4 : Int) = 3) = false from rfl, show decide ((4 : Int) = 2) = false from rfl, keep_out15 hG.vs, keep_out15 hG.ls, without_none15 e2]

theorem keepC15 {w w1 w2 : World} {b : Nat} {x y : Value} (hb : Below w1.heap.size w1 w2) (h : w1.cell? ⟨b, 0, none⟩ = some x ∧ w1.cell? ⟨b, 1, none⟩ = some y ∧ (∃ g h : Value, w1.heap[b + 1]? = some (.cells #[g, h] 24 (0, 0))) ∧ Below w.heap.size w w1) :
    w2.cell? ⟨b, 0, none⟩ = some x ∧ w2.cell? ⟨b, 1, none⟩ = some y ∧ (∃ g h : Value, w2.heap[b + 1]? = some (.cells #[g, h] 24 (0, 0))) ∧ Below w.heap.size w w2 := by
  obtain ⟨h0, h1, ⟨g, g', hg⟩, hw⟩ := h
  have hz := box_lt hg
  exact ⟨(hb.cell (p := ⟨b, 0, none⟩) (by show b < _; omega)).trans h0, (hb.cell (p := ⟨b, 1, none⟩) (by show b < _; omega)).trans h1, ⟨g, g', box_below hg hb⟩, hw.trans (hb.mono hw.size)⟩
theorem storeC15 {w w1 : World} {b : Nat} {x y u v : Value} (hle : w.heap.size ≤ b) (h : w1.cell? ⟨b, 0, none⟩ = some x ∧ w1.cell? ⟨b, 1, none⟩ = some y ∧ (∃ g h : Value, w1.heap[b + 1]? = some (.cells #[g, h] 24 (0, 0))) ∧ Below w.heap.size w w1) :
    ((w1.setCell ⟨b + 1, 0, none⟩ u).setCell ⟨b + 1, 1, none⟩ v).cell? ⟨b, 0, none⟩ = some x ∧ ((w1.setCell ⟨b + 1, 0, none⟩ u).setCell ⟨b + 1, 1, none⟩ v).cell? ⟨b, 1, none⟩ = some y ∧ (∃ g h : Value, ((w1.setCell ⟨b + 1, 0, none⟩ u).setCell ⟨b + 1, 1, none⟩ v).heap[b + 1]? = some (.cells #[g, h] 24 (0, 0))) ∧ Below w.heap.size w ((w1.setCell ⟨b + 1, 0, none⟩ u).setCell ⟨b + 1, 1, none⟩ v) := by
  obtain ⟨h0, h1, ⟨g, g', hg⟩, hw⟩ := h
  refine ⟨?_, ?_, ⟨u, v, ?_⟩, (hw.setCell (p := ⟨b + 1, 0, none⟩) (by show _ ≤ b + 1; omega) u).setCell (p := ⟨b + 1, 1, none⟩) (by show _ ≤ b + 1; omega) v⟩
  · rw [World.cell?_setCell_other _ _ _ _ (by simp), World.cell?_setCell_other _ _ _ _ (by simp)]
    exact h0
  · rw [World.cell?_setCell_other _ _ _ _ (by simp), World.cell?_setCell_other _ _ _ _ (by simp)]
    exact h1
  · exact set_block15 (set_block15 hg 0 u (by simp)) 1 v (by simp)
theorem heldC15 {w w1 : World} {b : Nat} {x y : Value} (h : w1.cell? ⟨b, 0, none⟩ = some x ∧ w1.cell? ⟨b, 1, none⟩ = some y ∧ (∃ g h : Value, w1.heap[b + 1]? = some (.cells #[g, h] 24 (0, 0))) ∧ Below w.heap.size w w1) : Below w.heap.size w w1 := h.2.2.2

set_option maxRecDepth 100000 in
set_option maxHeartbeats 4000000 in
theorem change_any (x : ConfV) (k n : Int) (w : World) (h : FitsF w x) :
    Calls Try.prog 10 #[.agg x.arr, .int .i64 k, .int .i64 n] w fun e w' => ∃ d : ConfV, e = .returned (.tuple #[.agg d.arr, .int .i64 ((change15 x.f k n).2 : Nat)]) ∧ d.f = (change15 x.f k n).1 ∧ OwnsF15 w' w.heap.size d ∧ Below w.heap.size w w' := by
  have hb1 : Below w.heap.size w (w.alloc (.cells x.arr 24)) := (Below.refl _ _).alloc (Nat.le_refl _) _
  have hx1 : ConfAt (w.alloc (.cells x.arr 24)) w.heap.size x := heap_alloc_new w _
  have hz1 : (w.alloc (.cells x.arr 24)).heap.size = w.heap.size + 1 := by simp
  have hb2 := (Below.refl _ (w.alloc (.cells x.arr 24))).alloc (Nat.le_refl _) (.cells noFV.arr 24)
  have hr2 : ConfAt ((w.alloc (.cells x.arr 24)).alloc (.cells noFV.arr 24)) (w.heap.size + 1) noFV := by rw [← hz1]; exact heap_alloc_new _ _
  have hx2 : ConfAt _ w.heap.size x := box_below hx1 hb2
  have hB := hb1.trans (hb2.mono hb1.size)
  have kr := refused_any x k n _ (h.below hB)
  by_cases h0 : (change15 x.f k n).2 = 0
  · obtain ⟨hG, hK, hD, hk⟩ := change_keep15 h0
    rw [h0] at kr ⊢
    rw [hK] at hD ⊢
    have ku := fun (b : Bool) W (hb : Below w.heap.size w W) => keep_any _ x.f.vs n b W (h.below hb).u (by have := hG.vs.len; omega)
    have kv := fun (b : Bool) W (hb : Below w.heap.size w W) => keep_any _ x.f.ls n b W (h.below hb).v (by have := hG.ls.len; omega)
    obtain ⟨⟨p, u, c⟩, ⟨q, v, d⟩, f⟩ := x
    unfold ConfV.arr noFV nilS10 at *
    dsimp only at *
    obtain ⟨a, ha⟩ : ∃ a, a = decide (k = 1 ∨ k = 3) := ⟨_, rfl⟩
    obtain ⟨l, hl⟩ : ∃ l, l = decide (k = 2) := ⟨_, rfl⟩
    rw [← ha, ← hl] at hD ⊢
    have ku := ku a
    have kv := kv l
    generalize keep15 f.vs n a = V at *
    generalize keep15 f.ls n l = L at *
    have HD : Hid (Good15 ⟨V, L⟩) := hD
    clear hK hD hG h0 h hb1 hx1 hb2
    go_enter Try.func10, Try.ntmps10
    go_wp2_with fail
    refine kr.mono ?_
    rintro e w1 ⟨rfl, hb3⟩
    have hB3 := hB.trans (hb3.mono hB.size)
    have hx3 := box_below hx2 hb3
    have hr3 := box_below hr2 hb3
    have s0 : w1.drew.cell? ⟨w.heap.size, 0, none⟩ = some (.slice p u c) ∧ w1.drew.cell? ⟨w.heap.size, 1, none⟩ = some (.slice q v d) ∧ (∃ g h : Value, w1.drew.heap[w.heap.size + 1]? = some (.cells #[g, h] 24 (0, 0))) ∧ Below w.heap.size w w1.drew := ⟨box_cell hx3 0, box_cell hx3 1, ⟨_, _, hr3⟩, ⟨hB3.os, hB3.tape, hB3.output, hB3.size, hB3.block⟩⟩
    clear kr hb3 hx2 hr2 hB
    rcases (show k = 1 ∨ k = 2 ∨ k = 3 ∨ k = 4 by omega) with rfl | rfl | rfl | rfl
    all_goals
      clear hk
      first
        | (obtain rfl : a = true := ha)
        | (obtain rfl : a = false := ha)
      first
        | (obtain rfl : l = true := hl)
        | (obtain rfl : l = false := hl)
      go_wp2_with fail
      go_region_held3 (fun W => W.cell? ⟨w.heap.size, 0, none⟩ = some (.slice p u c) ∧ W.cell? ⟨w.heap.size, 1, none⟩ = some (.slice q v d) ∧ (∃ g h : Value, W.heap[w.heap.size + 1]? = some (.cells #[g, h] 24 (0, 0))) ∧ Below w.heap.size w W)
        (first | exact s0 | exact keepC15 (by assumption) (by assumption) | exact storeC15 (Nat.le_refl _) hh5)
        (first
          | (go_at_call 23; have hO4' := hO4; refine (kv _ (heldC15 (by assumption))).mono ?_; rintro e w5 ⟨v5, rfl, hO5, hb5⟩; have hh5 := keepC15 hb5 (by assumption); obtain ⟨g5, g6, hg5⟩ := id hh5.2.2.1; have cr0 := box_cell hg5 0; have cr1 := box_cell hg5 1; have fr0 := frozen15 hg5 0; have fr1 := frozen15 hg5 1; obtain ⟨p5, c5, rfl, -, -, -⟩ := id hO5.has)
          | (go_at_call 23; refine (ku _ (heldC15 (by assumption))).mono ?_; rintro e w4 ⟨v4, rfl, hO4, hb4⟩; obtain ⟨p4, c4, rfl, -, -, -⟩ := id hO4.has))
      have hF : ConfAt ((w5.setCell ⟨w.heap.size + 1, 0, none⟩ (.slice p4 V.length c4)).setCell ⟨w.heap.size + 1, 1, none⟩ (.slice p5 L.length c5)) (w.heap.size + 1) ⟨⟨p4, V.length, c4⟩, ⟨p5, L.length, c5⟩, ⟨V, L⟩⟩ := set_block15 (set_block15 hg5 0 _ (by simp)) 1 _ (by simp)
      have hlt2 : w.heap.size + 1 < w1.heap.size := box_lt hr3
      have h4 : w1.heap.size ≤ w4.heap.size := hb4.size
      replace hO4 : OwnsI w4 w1.heap.size (.slice p4 V.length c4) V := hO4
      have hO9 : OwnsF15 w5 (w.heap.size + 2) ⟨⟨p4, V.length, c4⟩, ⟨p5, L.length, c5⟩, ⟨V, L⟩⟩ := ⟨(hO4.below hb5 (Nat.le_refl _)).mono (by omega), hO5.mono (by omega), HD.out.vs.inn, HD.out.ls.inn, Nat.le_trans HD.out.vs.len (by decide), Nat.le_trans HD.out.ls.len (by decide)⟩
      have hO := ((hO9.cell (b := w.heap.size + 1) (by omega) 0 (.slice p4 V.length c4)).cell (b := w.heap.size + 1) (by omega) 1 (.slice p5 L.length c5)).mono (B' := w.heap.size) (by omega)
      have hBz := (hh5.2.2.2.setCell (p := ⟨w.heap.size + 1, 0, none⟩) (by show _ ≤ w.heap.size + 1; omega) (.slice p4 V.length c4)).setCell (p := ⟨w.heap.size + 1, 1, none⟩) (by show _ ≤ w.heap.size + 1; omega) (.slice p5 L.length c5)
      clear hO9 hO4 hO5 hb4 hb5 hh5 s0 ku kv
      go_wp2
      exact bodyPost_ret (ret15 rfl _ _ (w.heap.size + 1) _ _ _ _ rfl hF Try.underlying24 rfl (by kernel_rfl)) rfl ⟨_, rfl, rfl, hO, hBz⟩
  · have h1 := (change_err15 x.f k n).resolve_left h0
    have h2 : (change15 x.f k n).1 = noF10 := by rw [h1]
    rw [h2]
    have h3 : ((((change15 x.f k n).2 : Nat) : Int) == 0) = false := beq_eq_false_iff_ne.2 (by omega)
    have h4 : (((change15 x.f k n).2 : Nat) : Int) ≠ 0 := by omega
    clear h0 h1 h2 hb1 hb2 hx1 h
    generalize (change15 x.f k n).2 = E at *
    obtain ⟨⟨p, u, c⟩, ⟨q, v, d⟩, f⟩ := x
    unfold ConfV.arr noFV nilS10 at *
    dsimp only at *
    go_enter Try.func10, Try.ntmps10
    go_wp2_with fail
    refine kr.mono ?_
    rintro e w1 ⟨rfl, hb3⟩
    have hB3 := hB.trans (hb3.mono hB.size)
    have hr3 : w1.heap[w.heap.size + 1]? = some (.cells #[.slice none 0 0, .slice none 0 0] 24 (0, 0)) := box_below hr2 hb3
    have cr0 := box_cell hr3 0
    have cr1 := box_cell hr3 1
    have fr0 := frozen15 hr3 0
    have fr1 := frozen15 hr3 1
    have hlt2 := box_lt hr3
    clear kr hb3 hx2 hr2 hB
    have hF : ConfAt ((w1.setCell ⟨w.heap.size + 1, 0, none⟩ (.slice none 0 0)).setCell ⟨w.heap.size + 1, 1, none⟩ (.slice none 0 0)) (w.heap.size + 1) noFV := set_block15 (set_block15 hr3 0 _ (by simp)) 1 _ (by simp)
    have hBz := (hB3.setCell (p := ⟨w.heap.size + 1, 0, none⟩) (by show _ ≤ w.heap.size + 1; omega) (.slice none 0 0)).setCell (p := ⟨w.heap.size + 1, 1, none⟩) (by show _ ≤ w.heap.size + 1; omega) (.slice none 0 0)
    go_wp2
    exact bodyPost_ret (ret15 rfl _ _ (w.heap.size + 1) _ _ _ _ rfl hF Try.underlying24 rfl (by kernel_rfl)) rfl ⟨noFV, rfl, rfl, OwnsF15.nil _ _, hBz⟩
shelf_lay Lays2.n25 Nm2 25 at Try as Try.bs15L

theorem bs15_any (v : Value) (xs : List Int) (x : Int) (w : World) (h : HasI w v xs) (hs : xs.Pairwise (· ≤ ·)) (hl : xs.length ≤ 1000000) :
    Calls Try.prog 29 #[v, .int .i64 x] w fun e w' => ∃ k q : Nat, e = .returned (.tuple #[.int .i64 k, .bool (hasI10 xs x)]) ∧ w' = w.drewN q := by
  have hcx : hasI10 xs x = xs.contains x := by
    rw [Bool.eq_iff_iff, hasI_iff15, List.contains_iff_mem]
  rw [hcx]
  obtain ⟨p, c, rfl, _, _, hx⟩ := h
  by_cases h0 : xs.length = 0
  · obtain rfl := List.eq_nil_of_length_eq_zero h0
    have hc := Any.slices_BinarySearch_int_empty Try.bs15L p c x w
    change Calls Try.prog 29 _ _ _ at hc
    refine hc.mono ?_
    rintro e w' ⟨rfl, rfl⟩
    exact ⟨0, 0, rfl, rfl⟩
  · obtain ⟨b, o, rfl, hlt, hcell⟩ := hx (by omega)
    have hc := Any.slices_BinarySearch_int Try.bs15L b o xs.length c xs x w (Nat.le_refl _) (by omega) hcell (by rw [List.take_length]; exact hs)
    change Calls Try.prog 29 _ _ _ at hc
    refine hc.mono ?_
    rintro e w' ⟨rfl, q, rfl⟩
    rw [List.take_length]
    exact ⟨_, q, rfl, rfl⟩

theorem rising1_any (v : Value) (xs : List Int) (w : World) (h : HasI w v xs) (hl : xs.length ≤ 50000) :
    Calls Try.prog 28 #[.slice (some ⟨w.heap.size, 0, none⟩) 1 1] (w.alloc (.cells #[v] 22)) fun e w' => ∃ u, e = .returned u ∧ OwnsI w' w.heap.size u (set15 xs) ∧ Below w.heap.size w w' := by
  have hR := Rows15.lit w [(v, xs)] (fun q hq => by
    obtain rfl := List.mem_singleton.1 hq
    exact h)
  simp only [List.map_cons, List.map_nil] at hR
  have hk := rising_any _ _ _ hR (by simp [len15]; omega) (by simp)
  have hcat : cat15 [(v, xs)] = xs := by simp [cat15]
  rw [hcat] at hk
  refine hk.mono ?_
  rintro e w1 ⟨v1, rfl, hO1, hb1⟩
  have hs : w.heap.size ≤ (w.alloc (.cells #[v] 22)).heap.size := by simp
  exact ⟨v1, rfl, hO1.mono hs, ((Below.refl _ _).alloc (Nat.le_refl _) _).trans (hb1.mono hs)⟩
theorem count_take15 (P : Int → Bool) {l : List Int} {j : Nat} (h : j < l.length) : (l.take (j + 1)).countP P = (l.take j).countP P + (if P (l.getD j 0) = true then 1 else 0) := by
  rw [List.take_succ_eq_append_getElem h, List.countP_append, List.getD_eq_getElem?_getD, List.getElem?_eq_getElem h, Option.getD_some, List.countP_cons, List.countP_nil, Nat.zero_add]
def most15 (vs l : List Int) : Bool := decide ((set15 vs).length / 2 < (set15 vs).countP (hasI10 l))
theorem most_is15 {vs : List Int} (h : Ris15 vs) (l : List Int) : most15 vs l = maj15 vs (hasI10 l) := by
  unfold most15
  rw [h.maj, set_same15 h.up]

set_option maxRecDepth 100000 in
set_option maxHeartbeats 4000000 in
theorem majority_any (x : ConfV) (t : Value) (l : List Int) (w : World) (h : FitsF w x) (ht : HasI w t l) (lu : x.f.vs.length ≤ 40000) (ll : l.length ≤ 40000) :
    Calls Try.prog 18 #[.agg x.arr, t] w fun e w' => e = .returned (.bool (most15 x.f.vs l)) ∧ Below w.heap.size w w' := by
  have b1 : Below w.heap.size w (w.alloc (.cells x.arr 24)) := (Below.refl _ _).alloc (Nat.le_refl _) _
  have s1 : (w.alloc (.cells x.arr 24)).heap.size = w.heap.size + 1 := by simp
  have k1 := rising1_any _ _ _ (h.below b1).u (by omega)
  rw [s1] at k1
  obtain ⟨q, d, rfl, -⟩ := ht.parts14
  have k2 := fun W v (h : HasI W v l) => rising1_any v l W h (by omega)
  have lset := set_len15 x.f.vs
  have lset2 := set_len15 l
  have hup : (set15 l).Pairwise (· ≤ ·) := (set_up15 l).imp fun h => Int.le_of_lt h
  have hlk : ∀ z, hasI10 (set15 l) z = hasI10 l z := fun z => by rw [Bool.eq_iff_iff, hasI_iff15, hasI_iff15, mem_set15]
  unfold most15
  generalize set15 x.f.vs = vs at *
  generalize set15 l = ls at *
  obtain ⟨R, hR⟩ : ∃ R, R = decide (vs.length / 2 < List.countP (hasI10 l) vs) := ⟨_, rfl⟩
  rw [← hR]
  have HR : Hid (R = decide (vs.length / 2 < List.countP (hasI10 l) vs)) := hR
  clear hR
  obtain ⟨⟨p, u, c⟩, ⟨q2, v, d2⟩, f⟩ := x
  unfold ConfV.arr at *
  dsimp only at *
  clear h
  go_enter Try.func18, Try.ntmps18
  go_wp2_with fail
  refine k1.mono ?_
  rintro e w1 ⟨v1, rfl, hO1, hb1⟩
  have hB1 : Below w.heap.size w w1 := b1.trans (hb1.mono (by omega))
  replace k2 := k2 w1 _ (ht.below hB1 (Nat.le_refl _))
  clear k1 s1 b1 hb1
  obtain ⟨p1, c1, rfl, -, -, -⟩ := id hO1.has
  go_wp2_with fail
  refine k2.mono ?_
  rintro e w2 ⟨v2, rfl, hO2, hb2⟩
  have hB2 : Below w.heap.size w w2 := hB1.trans (hb2.mono hB1.size)
  have hV := (hO1.below hb2 (Nat.le_refl _)).has
  have kb := fun z k => bs15_any v2 ls z (w2.drewN k) (hO2.has.below (below_drew14 (Below.refl w2.heap.size w2)) (Nat.le_refl _)) hup (by omega)
  have lv2 : ls.length ≤ 40000 := by omega
  have lv1 : vs.length ≤ 40000 := by omega
  obtain ⟨p2, c2, rfl, -, -, -⟩ := id hO2.has
  clear k2 hO1 hO2 hb2 hB1 ht hup lset lset2
  generalize hP : hasI10 l = P at *
  go_wp2
  go_loopw [7, 21] (fun s7 s21 wr => ∃ j k : Nat, j ≤ vs.length ∧ s21 = .int .i64 j ∧ s7 = .int .i64 ((vs.take j).countP P : Nat) ∧ wr = w2.drewN k) (fun _ s21 _ => vs.length - (intOf s21).toNat)
  case atStart => exact ⟨0, 0, by omega, rfl, rfl, rfl⟩
  case round =>
    obtain ⟨j, k, hj, rfl, rfl, rfl⟩ := hrel
    by_cases hlt : j < vs.length
    · obtain ⟨b, o, rfl, hbl, hc⟩ := hV.at hlt
      have hS := count_take15 P hlt
      have hK := kb (vs.getD j 0) k
      rw [hlk] at hK
      have hle : (vs.take j).countP P ≤ 40000 := by
        have := List.countP_le_length (p := P) (l := vs.take j)
        rw [List.length_take] at this
        omega
      have hj1 : (j : Int) < (vs.length : Int) := by omega
      generalize vs.getD j 0 = y at *
      clear kb hlk
      cases hy : P y with
      | true =>
        rw [hy] at hK
        rw [hy, if_pos rfl] at hS
        have HS : Hid ((((vs.take (j + 1)).countP P : Nat) : Int) = ((vs.take j).countP P : Nat) + 1) := (by omega : (((vs.take (j + 1)).countP P : Nat) : Int) = ((vs.take j).countP P : Nat) + 1)
        clear hS hy
        generalize (vs.take j).countP P = a0 at *
        go_wp2_with fail
        refine hK.mono ?_
        rintro e w3 ⟨k3, q3, rfl, rfl⟩
        rw [World.drewN_drewN]
        clear hK
        go_wp2
        go_roundw
        case rel => exact ⟨j + 1, _, by omega, by go_num, by rw [HS.out], rfl⟩
        case measure => simp only [intOf]; omega
      | false =>
        rw [hy] at hK
        rw [hy, if_neg (by decide), Nat.add_zero] at hS
        have HS : Hid ((vs.take (j + 1)).countP P = (vs.take j).countP P) := hS
        clear hS hy
        generalize (vs.take j).countP P = a0 at *
        go_wp2_with fail
        refine hK.mono ?_
        rintro e w3 ⟨k3, q3, rfl, rfl⟩
        rw [World.drewN_drewN]
        clear hK
        go_wp2
        go_roundw
        case rel => exact ⟨j + 1, _, by omega, by go_num, by rw [HS.out], rfl⟩
        case measure => simp only [intOf]; omega
    · obtain rfl : j = vs.length := by omega
      rw [List.take_length]
      have ht : ((vs.length : Int)).tdiv 2 = ((vs.length / 2 : Nat) : Int) := by rw [Int.tdiv_eq_ediv_of_nonneg (by omega)]; omega
      clear kb hlk
      have hle : vs.countP P ≤ 40000 := by
        have := List.countP_le_length (p := P) (l := vs)
        omega
      have hh : vs.length / 2 ≤ 40000 := by omega
      generalize vs.countP P = a at *
      generalize vs.length / 2 = h2 at *
      go_wp2
      go_ret
      refine ⟨?_, below_drew14 hB2⟩
      rw [HR.out]
      rfl
theorem ret15_one {P : Program} {fn : Func} {p : Tmp} {ty : TypeId} (h : fn.results = #[.cell p ty]) (tmps : Array Value) (w : World) (g : Nat) (t : TypeId) (cs : Array Value) (fr : Nat × Nat) (d : TypeDesc)
    (hp : tmps.getD p undef = .pointer (some ⟨g, 0, none⟩)) (hg : w.heap[g]? = some (.cells cs t fr))
    (hu : P.underlying ty = some d) (hd : (match d with | .struct _ | .array _ _ => true | _ => false) = true) (hi : (P.info? ty).map (·.size) = some cs.size) :
    (results fn tmps).run P w = .ok (.agg cs) w := by
  have hp' : tmps[p]?.getD undef = .pointer (some ⟨g, 0, none⟩) := by simpa using hp
  simp [results, h, hp', asAddr, run_loadVar_row w g t ty cs fr d hg hu hd hi]

def up15 (j : Nat) : List Int := (List.range j).map fun (i : Nat) => (i : Int) + 1
theorem up_step15 (j : Nat) : up15 (j + 1) = up15 j ++ [(j : Int) + 1] := by
  unfold up15
  rw [List.range_succ, List.map_append]
  rfl
theorem up_len15 (j : Nat) : (up15 j).length = j := by unfold up15; rw [List.length_map, List.length_range]
theorem up_rises15 (j : Nat) : (up15 j).Pairwise (· < ·) := by
  refine List.pairwise_iff_getElem.2 fun a b ha hb hab => ?_
  simp only [up15, List.getElem_map, List.getElem_range]
  omega
theorem keep_up15 (j : Nat) : keep15 (up15 j) ((j : Int) + 1) true = up15 (j + 1) := by
  show set15 (up15 j ++ [(j : Int) + 1]) = _
  rw [← up_step15, set_same15 (up_rises15 _)]
def most9 (n : Int) : Nat := if n < 1 then 1 else if 9 < n then 9 else n.toNat
theorem begin_up15 (n : Int) : begin15 n = up15 (most9 n) := rfl
theorem most9_le (n : Int) : 1 ≤ most9 n ∧ most9 n ≤ 9 := by
  unfold most9
  split
  · omega
  · split <;> omega

theorem HasI.form15 {w : World} {v : Value} {l : List Int} (h : HasI w v l) : ∃ p n c, v = .slice p n c := by
  obtain ⟨p, c, rfl, -⟩ := h
  exact ⟨_, _, _, rfl⟩
structure Box15 (w wr : World) (b : Nat) (t : Value) (l : List Int) : Prop where
  own : OwnsI wr (b + 1) t l
  box : wr.heap[b]? = some (.cells #[t, .slice none 0 0] 24 (0, 0))
  bel : Below w.heap.size w wr

set_option maxRecDepth 100000 in
set_option maxHeartbeats 4000000 in
theorem begin_any (n : Int) (w : World) (hn : -9223372036854775808 ≤ n ∧ n ≤ 9223372036854775807) :
    Calls Try.prog 15 #[.int .i64 n] w fun e w' => ∃ d : ConfV, e = .returned (.agg d.arr) ∧ d.f = ⟨begin15 n, []⟩ ∧ OwnsF15 w' w.heap.size d ∧ Below w.heap.size w w' := by
  rw [begin_up15]
  have hm := most9_le n
  have hme : min (max n 1) 9 = ((most9 n : Nat) : Int) := by
    unfold most9
    split
    · omega
    · split <;> omega
  obtain ⟨z, e1⟩ : ∃ z, max n 1 = z := ⟨_, rfl⟩
  rw [e1] at hme
  have hz : 1 ≤ z ∧ z ≤ 9223372036854775807 := by omega
  generalize most9 n = m at *
  have b1 : Below w.heap.size w (w.alloc (.cells #[.slice none 0 0, .slice none 0 0] 24)) := (Below.refl _ _).alloc (Nat.le_refl _) _
  have z1 : (w.alloc (.cells #[.slice none 0 0, .slice none 0 0] 24)).heap.size = w.heap.size + 1 := by simp
  have r1 := heap_alloc_new w (.cells #[.slice none 0 0, .slice none 0 0] 24)
  have r2 := heap_alloc_new (w.alloc (.cells #[.slice none 0 0, .slice none 0 0] 24)) (.cells #[.slice none 0 0, .slice none 0 0] 24)
  have b2 : Below (w.alloc (.cells #[.slice none 0 0, .slice none 0 0] 24)).heap.size (w.alloc (.cells #[.slice none 0 0, .slice none 0 0] 24)) ((w.alloc (.cells #[.slice none 0 0, .slice none 0 0] 24)).alloc (.cells #[.slice none 0 0, .slice none 0 0] 24)) := (Below.refl _ _).alloc (Nat.le_refl _) _
  have q1 := box_below r1 b2
  rw [z1] at r2
  have b3 := b1.trans (b2.mono b1.size)
  clear r1 b1 b2 z1 hn
  go_enter Try.func15, Try.ntmps15
  go_wp2
  clear e1 hme hz
  generalize (w.alloc (.cells #[.slice none 0 0, .slice none 0 0] 24)).alloc (.cells #[.slice none 0 0, .slice none 0 0] 24) = W at *
  go_loopw [8] (fun s wr => ∃ (j : Nat) (t : Value), j ≤ m ∧ s = .int .i64 j ∧ Box15 w wr (w.heap.size + 1) t (up15 j) ∧ wr.heap[w.heap.size]? = some (.cells #[.slice none 0 0, .slice none 0 0] 24 (0, 0))) (fun s _ => m - (intOf s).toNat)
  case atStart => exact ⟨0, _, by omega, rfl, ⟨OwnsI.nil _ _, r2, b3⟩, q1⟩
  case round =>
    clear r2 q1 b3
    obtain ⟨j, t, hj, rfl, hX, hq⟩ := hrel
    have c0 := box_cell hX.box 0
    have c1 := box_cell hX.box 1
    have hlt := box_lt hX.box
    obtain ⟨p, c, rfl, -, -, -⟩ := id hX.own.has
    by_cases hlt2 : j < m
    · have hk := keep_any _ _ ((j : Int) + 1) true wr hX.own.has (by rw [up_len15]; omega)
      rw [keep_up15] at hk
      have hbel := hX.bel
      have hbx := hX.box
      clear hX
      generalize (up15 j).length = lj at *
      go_wp2_with fail
      refine hk.mono ?_
      rintro e w3 ⟨v3, rfl, hO3, hb3⟩
      have hx3 := box_below hbx hb3
      have hq3 := box_below hq hb3
      have hbel3 := hbel.trans (hb3.mono hbel.size)
      have d0 := box_cell hx3 0
      have f0 := frozen15 hx3 0
      have hlt3 := box_lt hx3
      have hX3 := set_block15 hx3 0 v3 (by simp)
      have hO9 := (hO3.mono (B' := w.heap.size + 1 + 1) (by omega)).cell15 (b := w.heap.size + 1) (by omega) 0 v3
      have hq9 : (w3.setCell ⟨w.heap.size + 1, 0, none⟩ v3).heap[w.heap.size]? = some (.cells #[.slice none 0 0, .slice none 0 0] 24 (0, 0)) := by
        rw [← hq3]
        simp [World.setCell, Array.getElem?_modify]
      have hbel9 := hbel3.setCell (p := ⟨w.heap.size + 1, 0, none⟩) (by show _ ≤ w.heap.size + 1; omega) v3
      obtain ⟨p3, c3, rfl, -, -, -⟩ := id hO3.has
      clear hk hO3 hb3 hbx hq hbel hbel3 hx3 c0 c1
      go_wp2
      go_roundw
      case rel => exact ⟨j + 1, _, by omega, by go_num, ⟨hO9, hX3, hbel9⟩, hq9⟩
      case measure => simp only [intOf]; omega
    · obtain rfl : j = m := by omega
      have hs := up_len15 j
      have hO := hX.own
      have hx := hX.box
      have hbel := hX.bel
      clear hX
      have q0 := box_cell hq 0
      have q1 := box_cell hq 1
      have g0 := frozen15 hq 0
      have g1 := frozen15 hq 1
      have hlt3 := box_lt hq
      have hF : ConfAt ((wr.setCell ⟨w.heap.size, 0, none⟩ (.slice p (up15 j).length c)).setCell ⟨w.heap.size, 1, none⟩ (.slice none 0 0)) w.heap.size ⟨⟨p, (up15 j).length, c⟩, ⟨none, 0, 0⟩, ⟨up15 j, []⟩⟩ := set_block15 (set_block15 hq 0 _ (by simp)) 1 _ (by simp)
      have hI : inL (up15 j) := by
        have := (begin_good15 (j : Int)).vs.inn
        have e : begin15 (j : Int) = up15 j := by
          rw [begin_up15]
          unfold most9
          rw [if_neg (by omega), if_neg (by omega)]
          rfl
        rwa [e] at this
      have hO9 : OwnsF15 wr (w.heap.size + 1) ⟨⟨p, (up15 j).length, c⟩, ⟨none, 0, 0⟩, ⟨up15 j, []⟩⟩ := ⟨hO.mono (by omega), OwnsI.nil _ _, hI, (fun _ h => by cases h), by rw [hs]; omega, Nat.zero_le _⟩
      have hO2 := ((hO9.cell (b := w.heap.size) (by omega) 0 (.slice p (up15 j).length c)).cell (b := w.heap.size) (by omega) 1 (.slice none 0 0)).mono (B' := w.heap.size) (by omega)
      have hBz := (hbel.setCell (p := ⟨w.heap.size, 0, none⟩) (Nat.le_refl _) (.slice p (up15 j).length c)).setCell (p := ⟨w.heap.size, 1, none⟩) (Nat.le_refl _) (.slice none 0 0)
      clear hO9 hO hq hx hI
      generalize (up15 j).length = lj at *
      obtain rfl : lj = j := hs
      go_wp2
      exact bodyPost_ret (ret15_one rfl _ _ w.heap.size _ _ _ _ rfl hF Try.underlying24 rfl (by kernel_rfl)) rfl ⟨_, rfl, rfl, hO2, hBz⟩

theorem box15_new (w1 : World) (p : Option Addr) (n c : Nat) (q : Option Addr) (m d : Nat) (f : Conf10) :
    ConfAt (w1.alloc (.cells #[.slice p n c, .slice q m d] 24)) w1.heap.size ⟨⟨p, n, c⟩, ⟨q, m, d⟩, f⟩ ∧
      Below w1.heap.size w1 (w1.alloc (.cells #[.slice p n c, .slice q m d] 24)) :=
  ⟨heap_alloc_new w1 _, (Below.refl _ _).alloc (Nat.le_refl _) _⟩
theorem box15_put {w1 : World} {b : Nat} {x : ConfV} (h : ConfAt w1 b x) (p : Option Addr) (n c : Nat) (q : Option Addr) (m d : Nat) (f : Conf10) :
    ConfAt ((w1.setCell ⟨b, 0, none⟩ (.slice p n c)).setCell ⟨b, 1, none⟩ (.slice q m d)) b ⟨⟨p, n, c⟩, ⟨q, m, d⟩, f⟩ := fillF15 h p n c q m d f

theorem live15_1 : change15 ⟨[1, 2, 3], []⟩ 4 2 = (⟨[1, 3], []⟩, 0) := by kernel_rfl
theorem live15_2 : change15 ⟨[1, 3], []⟩ 2 4 = (⟨[1, 3], [4]⟩, 0) := by kernel_rfl
theorem live15_3 : change15 ⟨[1, 3], [4]⟩ 3 4 = (⟨[1, 3, 4], []⟩, 0) := by kernel_rfl
theorem live15_0 : begin15 3 = [1, 2, 3] := by decide +kernel
theorem live15_4 : undo15 1 = 4 := by decide +kernel

set_option maxRecDepth 100000 in
set_option maxHeartbeats 4000000 in
theorem lives15 (w : World) : Calls Try.prog 9 #[] w fun e w' => e = .returned (.bool true) ∧ Below w.heap.size w w' := by
  go_enter Try.func9, Try.ntmps9
  go_wp2_with fail
  refine (begin_any 3 w (by omega)).mono ?_
  rintro e w1 ⟨⟨⟨p, n, c⟩, ⟨q, m, d⟩, f⟩, rfl, hf, hO1, hb1⟩
  rw [live15_0] at hf
  dsimp only at hf
  subst hf
  unfold ConfV.arr
  dsimp only
  obtain ⟨hx2, hb2⟩ := box15_new w1 p n c q m d ⟨[1, 2, 3], []⟩
  have hB2 := hb1.trans (hb2.mono hb1.size)
  have hF2 := (hO1.below hb2).fits
  have k2 := change_any _ 4 2 _ hF2
  dsimp only [ConfV.arr] at k2
  rw [live15_1] at k2
  clear hO1 hb2 hF2
  have hs1 := hb1.size
  go_wp2_with fail
  generalize w1.alloc (.cells #[.slice p n c, .slice q m d] 24) = W2 at *
  generalize hb : w1.heap.size = b at *
  clear hb hb1
  refine k2.mono ?_
  rintro e w3 ⟨⟨⟨p3, n3, c3⟩, ⟨q3, m3, d3⟩, f⟩, rfl, hf, hO3, hb3⟩
  dsimp only at hf
  subst hf
  dsimp only
  have hx3 : w3.heap[b]? = some (.cells #[.slice p n c, .slice q m d] 24 (0, 0)) := box_below hx2 hb3
  have hB3 := hB2.trans (hb3.mono hB2.size)
  have hx4 := box15_put (x := ⟨⟨p, n, c⟩, ⟨q, m, d⟩, ⟨[1, 2, 3], []⟩⟩) hx3 p3 n3 c3 q3 m3 d3 ⟨[1, 3], []⟩
  have hlt := box_lt hx2
  have hO4 := (hO3.cell hlt 0 (.slice p3 n3 c3)).cell hlt 1 (.slice q3 m3 d3)
  have hB4 := (hB3.setCell (p := ⟨b, 0, none⟩) hs1 (.slice p3 n3 c3)).setCell (p := ⟨b, 1, none⟩) hs1 (.slice q3 m3 d3)
  have k4 := change_any _ 2 4 _ hO4.fits
  dsimp only [ConfV.arr] at k4
  rw [live15_2] at k4
  have cr0 := box_cell hx3 0
  have cr1 := box_cell hx3 1
  have fr0 := frozen15 hx3 0
  have fr1 := frozen15 hx3 1
  have hlt3 := box_lt hx3
  clear hx2 hB2 k2 hO3 hb3 hB3
  go_wp2_with fail
  generalize (w3.setCell ⟨b, 0, none⟩ (.slice p3 n3 c3)).setCell ⟨b, 1, none⟩ (.slice q3 m3 d3) = W4 at *
  clear cr0 cr1 fr0 fr1 hlt3 hlt hx3
  refine k4.mono ?_
  rintro e w5 ⟨⟨⟨p5, n5, c5⟩, ⟨q5, m5, d5⟩, f⟩, rfl, hf, hO5, hb5⟩
  dsimp only at hf
  subst hf
  dsimp only
  have hB5 := hB4.trans (hb5.mono hB4.size)
  have hx5 := box_below hx4 hb5
  have hO5c := hO4.below hb5
  obtain ⟨hy6, hb6⟩ := box15_new w5 p5 n5 c5 q5 m5 d5 ⟨[1, 3], [4]⟩
  have hx6 := box_below hx5 hb6
  have hB6 := hB5.trans (hb6.mono hB5.size)
  have hO6c := hO5c.below hb6
  have k6 := change_any _ 3 4 _ (hO5.below hb6).fits
  dsimp only [ConfV.arr] at k6
  rw [live15_3] at k6
  have hs5 := hB5.size
  have hlt5 := box_lt hx5
  have hF5 := hO5c.fits
  clear hx4 hx5 hB4 k4 hO4 hO5 hb5 hO5c hO6c hB5
  go_wp2_with fail
  generalize w5.alloc (.cells #[.slice p5 n5 c5, .slice q5 m5 d5] 24) = W6 at *
  refine k6.mono ?_
  rintro e w7 ⟨⟨⟨p7, n7, c7⟩, ⟨q7, m7, d7⟩, f⟩, rfl, hf, hO7, hb7⟩
  dsimp only at hf
  subst hf
  dsimp only
  have hB7 := hB6.trans (hb7.mono hB6.size)
  have hx7 : w7.heap[b]? = some (.cells #[.slice p3 n3 c3, .slice q3 m3 d3] 24 (0, 0)) := box_below hx6 hb7
  have hy7 : w7.heap[w5.heap.size]? = some (.cells #[.slice p5 n5 c5, .slice q5 m5 d5] 24 (0, 0)) := box_below hy6 hb7
  have hy8 : ((w7.setCell ⟨w5.heap.size, 0, none⟩ (.slice p7 n7 c7)).setCell ⟨w5.heap.size, 1, none⟩ (.slice q7 m7 d7)).heap[w5.heap.size]? = some (.cells #[.slice p7 n7 c7, .slice q7 m7 d7] 24 (0, 0)) := box15_put (x := ⟨⟨p5, n5, c5⟩, ⟨q5, m5, d5⟩, ⟨[1, 3], [4]⟩⟩) hy7 p7 n7 c7 q7 m7 d7 ⟨[1, 3, 4], []⟩
  have hx8 : ((w7.setCell ⟨w5.heap.size, 0, none⟩ (.slice p7 n7 c7)).setCell ⟨w5.heap.size, 1, none⟩ (.slice q7 m7 d7)).heap[b]? = some (.cells #[.slice p3 n3 c3, .slice q3 m3 d3] 24 (0, 0)) := by
    rw [← hx7]
    simp [World.setCell, Array.getElem?_modify, show w5.heap.size ≠ b by omega]
  have hlt6 := box_lt hy6
  have hF8 := ((hO7.cell hlt6 0 (.slice p7 n7 c7)).cell hlt6 1 (.slice q7 m7 d7)).fits
  have hG8 := hF5.below (((hb6.trans (hb7.mono hb6.size)).setCell (p := ⟨w5.heap.size, 0, none⟩) (Nat.le_refl _) (.slice p7 n7 c7)).setCell (p := ⟨w5.heap.size, 1, none⟩) (Nat.le_refl _) (.slice q7 m7 d7))
  have hB8 := (hB7.setCell (p := ⟨w5.heap.size, 0, none⟩) hs5 (.slice p7 n7 c7)).setCell (p := ⟨w5.heap.size, 1, none⟩) hs5 (.slice q7 m7 d7)
  have cr0 := box_cell hy7 0
  have cr1 := box_cell hy7 1
  have fr0 := frozen15 hy7 0
  have fr1 := frozen15 hy7 1
  have hlt7 := box_lt hy7
  have hz := hF8.v.len.1
  have hI1 := fun W u (hw : Below ((w7.setCell ⟨w5.heap.size, 0, none⟩ (.slice p7 n7 c7)).setCell ⟨w5.heap.size, 1, none⟩ (.slice q7 m7 d7)).heap.size ((w7.setCell ⟨w5.heap.size, 0, none⟩ (.slice p7 n7 c7)).setCell ⟨w5.heap.size, 1, none⟩ (.slice q7 m7 d7)) W) (hu : HasI W u [1, 3]) => ints10_any _ u _ _ W (hG8.u.below hw (Nat.le_refl _)) hu (by show 2 ≤ _; omega) (by decide)
  have hI2 := fun W u (hw : Below ((w7.setCell ⟨w5.heap.size, 0, none⟩ (.slice p7 n7 c7)).setCell ⟨w5.heap.size, 1, none⟩ (.slice q7 m7 d7)).heap.size ((w7.setCell ⟨w5.heap.size, 0, none⟩ (.slice p7 n7 c7)).setCell ⟨w5.heap.size, 1, none⟩ (.slice q7 m7 d7)) W) (hu : HasI W u [1, 3, 4]) => ints10_any _ u _ _ W (hF8.u.below hw (Nat.le_refl _)) hu (by show 3 ≤ _; omega) (by decide)
  dsimp only at hI1 hI2 hz
  clear hx6 hy6 hF5 k6 hb6 hB6 hO7 hb7 hB7 hx7 hF8 hG8
  go_upto_region 5 with fail
  generalize (w7.setCell ⟨w5.heap.size, 0, none⟩ (.slice p7 n7 c7)).setCell ⟨w5.heap.size, 1, none⟩ (.slice q7 m7 d7) = W8 at *
  clear cr0 cr1 fr0 fr1 hlt7 hy7 hlt6
  have d0 := box_cell hx8 0
  have d1 := box_cell hy8 0
  have d2 := box_cell hy8 1
  have l1 := box_lt hx8
  have l2 := box_lt hy8
  have b1 : Below W8.heap.size W8 (W8.alloc (.cells #[.int .i64 1, .int .i64 3] 3)) := (Below.refl _ _).alloc (Nat.le_refl _) _
  have j1 := hI1 _ _ b1 (HasI.lit W8 [1, 3] 3)
  rw [show decide (([1, 3] : List Int) = [1, 3]) = true from rfl] at j1
  have hu1 := live15_4
  have hz' : m7 = 0 := hz.symm
  subst hz'
  have HI2 : Hid _ := hI2
  clear hz hI1 hI2
  go_wp2_with fail
  refine j1.mono ?_
  rintro e w9 ⟨rfl, hb9⟩
  have hb89 : Below W8.heap.size W8 w9 := b1.trans (hb9.mono b1.size)
  have hy9 : w9.heap[w5.heap.size]? = some (.cells #[.slice p7 n7 c7, .slice q7 0 d7] 24 (0, 0)) := box_below hy8 hb89
  have e1 := box_cell hy9 0
  have e2 := box_cell hy9 1
  have l3 := box_lt hy9
  have b2 : Below W8.heap.size W8 (w9.alloc (.cells #[.int .i64 1, .int .i64 3, .int .i64 4] 3)) := hb89.alloc hb89.size _
  have j2 := HI2.out _ _ b2 (HasI.lit w9 [1, 3, 4] 3)
  simp only [decide_true] at j2
  clear d0 d1 d2 l1 l2 j1 b1 hb9 HI2 hx8 hy8
  go_wp2_with fail
  refine j2.mono ?_
  rintro e w10 ⟨rfl, hb10⟩
  have hb810 := b2.trans (hb10.mono b2.size)
  have hy10 : w10.heap[w5.heap.size]? = some (.cells #[.slice p7 n7 c7, .slice q7 0 d7] 24 (0, 0)) := box_below (box_below hy9 ((Below.refl w9.heap.size w9).alloc (Nat.le_refl _) _)) hb10
  have f0 := box_cell hy10 0
  have f1 := box_cell hy10 1
  have l4 := box_lt hy10
  clear j2 e1 e2 l3 hb10 hy9 hb89 b2
  have ku := undo15_any 1 w10
  rw [hu1] at ku
  go_wp2_with fail
  refine same_mono ku ?_
  go_wp2
  go_ret
  exact ⟨rfl, hB8.trans (hb810.mono hB8.size)⟩
theorem drewK15 {w w1 : World} {b : Nat} {x y : Value} (h : w1.cell? ⟨b, 0, none⟩ = some x ∧ w1.cell? ⟨b, 1, none⟩ = some y ∧ Below w.heap.size w w1 ∧ b < w1.heap.size) (k : Nat) :
    (w1.drewN k).drew.cell? ⟨b, 0, none⟩ = some x ∧ (w1.drewN k).drew.cell? ⟨b, 1, none⟩ = some y ∧ Below w.heap.size w (w1.drewN k).drew ∧ b < (w1.drewN k).drew.heap.size := by
  obtain ⟨h0, h1, hw, hz⟩ := h
  exact ⟨h0, h1, ⟨hw.os, hw.tape, hw.output, hw.size, hw.block⟩, hz⟩

end Go.Proofs.Ytkocomfcjklgcaa
