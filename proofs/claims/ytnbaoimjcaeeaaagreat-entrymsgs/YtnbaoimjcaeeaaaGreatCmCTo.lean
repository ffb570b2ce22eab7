import Derived.Test.YtnbaoimjcaeeaaaGreatEnVTo
import Derived.Test.YtnbaoimjcaeeaaaGreatCmBTo
import Derived.Shelf.Abstract
/-
  Contracts: entry.isNode, rise, apart, GoodConf; slices.Index, Contains, IndexFunc, ContainsFunc at ints.
-/
namespace Go.Proofs.YtnbaoimjcaeeaaaGreat
open Go.RowKit

def isNode10 (n : Int) : Bool := decide (1 ≤ n ∧ n ≤ 9)
def okAt10 (l : List Int) (i : Nat) : Bool := decide (1 ≤ l.getD i 0) && decide (l.getD i 0 ≤ 9) && (decide (i = 0) || decide (l.getD (i - 1) 0 < l.getD i 0))
theorem rises10_is (l : List Int) : rises10 l = (List.range l.length).all (okAt10 l) := rfl
theorem rises10_no {l : List Int} {i : Nat} (hi : i < l.length) (h : okAt10 l i = false) : rises10 l = false := by
  cases hr : rises10 l with
  | false => rfl
  | true =>
    rw [rises10_is, List.all_eq_true] at hr
    have := hr i (List.mem_range.2 hi)
    rw [h] at this
    cases this
theorem rises10_yes {l : List Int} (h : ∀ i, i < l.length → okAt10 l i = true) : rises10 l = true := by
  rw [rises10_is, List.all_eq_true]
  exact fun i hi => h i (List.mem_range.1 hi)
theorem okAt10_iff (l : List Int) (i : Nat) : okAt10 l i = true ↔ (1 ≤ l.getD i 0 ∧ l.getD i 0 ≤ 9) ∧ (i = 0 ∨ l.getD (i - 1) 0 < l.getD i 0) := by
  unfold okAt10
  simp only [Bool.and_eq_true, Bool.or_eq_true, decide_eq_true_eq]
def last10 (l : List Int) (j : Nat) : Int := if j = 0 then 0 else l.getD (j - 1) 0
theorem okAt10_last (l : List Int) (j : Nat) : okAt10 l j = (isNode10 (l.getD j 0) && !decide (l.getD j 0 ≤ last10 l j)) := by
  rw [Bool.eq_iff_iff, okAt10_iff]
  unfold isNode10 last10
  simp only [Bool.and_eq_true, decide_eq_true_eq, Bool.not_eq_true', decide_eq_false_iff_not]
  by_cases h : j = 0
  · rw [if_pos h]; omega
  · rw [if_neg h]; omega
set_option maxRecDepth 100000 in
theorem isNode_any (n : Int) (w : World) : Calls Tryz.prog 48 #[.int .i64 n] w fun e w' => e = .returned (.bool (isNode10 n)) ∧ w' = w := by
  by_cases h0 : 1 ≤ n
  · have HK : Hid (isNode10 n = decide (n ≤ 9)) := by
      show _ = _
      unfold isNode10
      rw [decide_eq_decide]
      omega
    go_enter Tryz.func48, Tryz.ntmps48
    go_wp2
    go_ret
    rw [HK.out]
    exact ⟨rfl, rfl⟩
  · have HK : Hid (isNode10 n = false) := by
      show _ = _
      unfold isNode10
      exact decide_eq_false (by omega)
    go_enter Tryz.func48, Tryz.ntmps48
    go_wp2
    go_ret
    rw [HK.out]
    exact ⟨rfl, rfl⟩

set_option maxRecDepth 100000 in
set_option maxHeartbeats 1500000 in
theorem rise_any (p : Option Addr) (n c : Nat) (xs : List Int) (w : World) (h : HasI w (.slice p n c) xs) (hl : xs.length ≤ 17592186044416) :
    Calls Tryz.prog 65 #[.slice p n c] w fun e w' => e = .returned (.bool (rises10 xs)) ∧ w' = w := by
  obtain ⟨hn, hc, -⟩ := h.len
  have HN : Hid (xs.length = n) := hn
  rw [hn] at hl
  have HX : Hid (HasI w (.slice p n c) xs) := h
  clear hn h
  go_enter Tryz.func65, Tryz.ntmps65
  go_wp2
  go_loopw [3, 8] (fun s3 s8 wr => ∃ j : Nat, j ≤ n ∧ s8 = .int .i64 (j : Nat) ∧ s3 = .int .i64 (last10 xs j) ∧ wr = w ∧ Hid (∀ i, i < j → okAt10 xs i = true)) (fun _ s8 _ => n - (intOf s8).toNat)
  case atStart => exact ⟨0, Nat.zero_le _, rfl, rfl, rfl, fun i hi => by omega⟩
  case round =>
    obtain ⟨j, hj, rfl, rfl, rfl, hok⟩ := hrel
    by_cases hlt : j < n
    · obtain ⟨b, o, rfl, hb, hcell⟩ := HX.out.at hlt
      have HO : Hid (okAt10 xs j = (isNode10 (xs.getD j 0) && !decide (xs.getD j 0 ≤ last10 xs j))) := okAt10_last xs j
      have HL : Hid (last10 xs (j + 1) = xs.getD j 0) := by rw [Hid, last10, if_neg (by omega)]; rfl
      generalize xs.getD j 0 = x at *
      generalize last10 xs j = y at *
      have hnode := isNode_any x wr
      generalize isNode10 x = bb at *
      cases bb with
      | false =>
        have HF : Hid (rises10 xs = false) := rises10_no (by rw [HN.out]; exact hlt) (by rw [HO.out]; rfl)
        go_wp2_with fail
        refine same_mono hnode ?_
        go_wp2
        go_ret
        rw [HF.out]
        exact ⟨rfl, rfl⟩
      | true =>
        by_cases hxy : x ≤ y
        · have HF : Hid (rises10 xs = false) := rises10_no (by rw [HN.out]; exact hlt) (by rw [HO.out, decide_eq_true hxy]; rfl)
          go_wp2_with fail
          refine same_mono hnode ?_
          go_wp2
          go_ret
          rw [HF.out]
          exact ⟨rfl, rfl⟩
        · have HT : Hid (okAt10 xs j = true) := by rw [Hid, HO.out, decide_eq_false hxy]; rfl
          go_wp2_with fail
          refine same_mono hnode ?_
          go_wp2
          go_roundw
          case rel =>
            refine ⟨j + 1, by omega, by go_num, by rw [HL.out], by trivial, fun i hi => ?_⟩
            by_cases e : i = j
            · rw [e]; exact HT.out
            · exact hok.out i (by omega)
          case measure => simp only [intOf]; omega
    · have HT : Hid (rises10 xs = true) := rises10_yes fun i hi => hok.out i (by rw [HN.out] at hi; omega)
      go_wp2
      go_ret
      rw [HT.out]
      exact ⟨rfl, rfl⟩

/-- Is it among them? -/
def hasI10 (l : List Int) (x : Int) : Bool := l.any fun a => decide (x = a)
theorem hasI10_no {l : List Int} {x : Int} (h : ∀ i, i < l.length → x ≠ l.getD i 0) : hasI10 l x = false := by
  unfold hasI10
  rw [List.any_eq_false]
  intro a ha
  obtain ⟨i, hi, rfl⟩ := List.getElem_of_mem ha
  have := h i hi
  rw [List.getD_eq_getElem?_getD, List.getElem?_eq_getElem hi] at this
  simpa using this
theorem hasI10_yes {l : List Int} {x : Int} {i : Nat} (hi : i < l.length) (h : x = l.getD i 0) : hasI10 l x = true := by
  unfold hasI10
  rw [List.any_eq_true]
  refine ⟨l.getD i 0, ?_, by simpa using h⟩
  rw [List.getD_eq_getElem?_getD, List.getElem?_eq_getElem hi]
  exact List.getElem_mem hi

set_option maxRecDepth 100000 in
set_option maxHeartbeats 1500000 in
theorem indexI_any (p : Option Addr) (n c : Nat) (xs : List Int) (x : Int) (w : World) (h : HasI w (.slice p n c) xs) (hl : xs.length ≤ 17592186044416) :
    Calls Tryz.prog 137 #[.slice p n c, .int .i64 x] w fun e w' => (∃ i : Int, e = .returned (.int .i64 i) ∧ decide (0 ≤ i) = hasI10 xs x) ∧ w' = w := by
  obtain ⟨hn, hc, -⟩ := h.len
  have HN : Hid (xs.length = n) := hn
  rw [hn] at hl
  have HX : Hid (HasI w (.slice p n c) xs) := h
  clear hn h
  go_enter Tryz.func137, Tryz.ntmps137
  go_wp2
  go_loopw [8] (fun s8 wr => ∃ j : Nat, j ≤ n ∧ s8 = .int .i64 (j : Nat) ∧ wr = w ∧ Hid (∀ i, i < j → x ≠ xs.getD i 0)) (fun s8 _ => n - (intOf s8).toNat)
  case atStart => exact ⟨0, Nat.zero_le _, rfl, rfl, fun i hi => by omega⟩
  case round =>
    obtain ⟨j, hj, rfl, rfl, hok⟩ := hrel
    by_cases hlt : j < n
    · obtain ⟨b, o, rfl, hb, hcell⟩ := HX.out.at hlt
      by_cases hxy : x = xs.getD j 0
      · have HF : Hid (hasI10 xs x = true) := hasI10_yes (by rw [HN.out]; exact hlt) hxy
        have he : (x == xs.getD j 0) = true := by simpa using hxy
        generalize xs.getD j 0 = y at *
        clear hxy
        go_wp2
        go_ret
        exact ⟨⟨_, rfl, by rw [HF.out]; simp⟩, rfl⟩
      · have HF : Hid (x ≠ xs.getD j 0) := hxy
        have he : (x == xs.getD j 0) = false := by simpa using hxy
        clear hxy
        have HS : Hid (∀ i, i < j + 1 → x ≠ xs.getD i 0) := fun i hi => by
          by_cases e : i = j
          · rw [e]; exact HF.out
          · exact hok.out i (by omega)
        clear hok HF
        generalize xs.getD j 0 = y at *
        go_wp2
        go_roundw
        case rel => exact ⟨j + 1, by omega, by go_num, by trivial, HS.out⟩
        case measure => simp only [intOf]; omega
    · have HF : Hid (hasI10 xs x = false) := hasI10_no fun i hi => hok.out i (by rw [HN.out] at hi; omega)
      go_wp2
      go_ret
      exact ⟨⟨_, rfl, by rw [HF.out]; rfl⟩, rfl⟩

set_option maxRecDepth 100000 in
set_option maxHeartbeats 1500000 in
theorem containsI_any (p : Option Addr) (n c : Nat) (xs : List Int) (x : Int) (w : World) (h : HasI w (.slice p n c) xs) (hl : xs.length ≤ 17592186044416) :
    Calls Tryz.prog 100 #[.slice p n c, .int .i64 x] w fun e w' => e = .returned (.bool (hasI10 xs x)) ∧ w' = w := by
  have hk := indexI_any p n c xs x w h hl
  generalize hasI10 xs x = r at *
  clear h hl
  go_enter Tryz.func100, Tryz.ntmps100
  go_wp2_with fail
  refine hk.mono ?_
  rintro e w' ⟨⟨i, rfl, hi⟩, rfl⟩
  have HI : Hid (decide (0 ≤ i) = r) := hi
  clear hk hi
  go_wp2
  go_ret
  rw [← HI.out]
  exact ⟨rfl, rfl⟩

set_option maxRecDepth 100000 in
set_option maxHeartbeats 1500000 in
theorem apart1_any (p : Option Addr) (n c b : Nat) (xs : List Int) (x : Int) (w : World) (h : HasI w (.slice p n c) xs) (hl : xs.length ≤ 17592186044416) (hb : w.cell? ⟨b, 0, none⟩ = some (.slice p n c)) (_hlt : b < w.heap.size) :
    Calls Tryz.prog 99 #[.int .i64 x, .pointer (some ⟨b, 0, none⟩)] w fun e w' => e = .returned (.bool (hasI10 xs x)) ∧ w' = w := by
  have hk := containsI_any p n c xs x w h hl
  generalize hasI10 xs x = r at *
  clear h hl
  go_enter Tryz.func99, Tryz.ntmps99
  go_wp2_with fail
  refine same_mono hk ?_
  go_wp2
  go_ret
  exact ⟨rfl, rfl⟩

set_option maxRecDepth 100000 in
set_option maxHeartbeats 1500000 in
theorem indexF_any (p q : Option Addr) (n c m d b : Nat) (xs ys : List Int) (w : World) (h : HasI w (.slice p n c) xs) (hl : xs.length ≤ 17592186044416) (h2 : HasI w (.slice q m d) ys) (hl2 : ys.length ≤ 17592186044416) (hb : w.cell? ⟨b, 0, none⟩ = some (.slice q m d)) (hblt : b < w.heap.size) :
    Calls Tryz.prog 136 #[.slice p n c, .func (.func 99) #[] #[.pointer (some ⟨b, 0, none⟩)]] w fun e w' => (∃ i : Int, e = .returned (.int .i64 i) ∧ decide (0 ≤ i) = xs.any fun x => hasI10 ys x) ∧ w' = w := by
  obtain ⟨hn, hc, -⟩ := h.len
  have HN : Hid (xs.length = n) := hn
  rw [hn] at hl
  have HX : Hid (HasI w (.slice p n c) xs) := h
  have HC : Hid (∀ x, Calls Tryz.prog 99 #[.int .i64 x, .pointer (some ⟨b, 0, none⟩)] w fun e w' => e = .returned (.bool (hasI10 ys x)) ∧ w' = w) := fun x => apart1_any q m d b ys x w h2 hl2 hb hblt
  clear hn h h2 hb hl2
  go_enter Tryz.func136, Tryz.ntmps136
  go_wp2
  go_loopw [8] (fun s8 wr => ∃ j : Nat, j ≤ n ∧ s8 = .int .i64 (j : Nat) ∧ wr = w ∧ Hid (∀ i, i < j → hasI10 ys (xs.getD i 0) = false)) (fun s8 _ => n - (intOf s8).toNat)
  case atStart => exact ⟨0, Nat.zero_le _, rfl, rfl, fun i hi => by omega⟩
  case round =>
    obtain ⟨j, hj, rfl, rfl, hok⟩ := hrel
    by_cases hlt : j < n
    · obtain ⟨b1, o1, rfl, hb1, hcell⟩ := HX.out.at hlt
      have hcall := HC.out (xs.getD j 0)
      cases hh : hasI10 ys (xs.getD j 0) with
      | true =>
        have HF : Hid ((xs.any fun x => hasI10 ys x) = true) := by
          rw [Hid, List.any_eq_true]
          refine ⟨xs.getD j 0, ?_, hh⟩
          rw [List.getD_eq_getElem?_getD, List.getElem?_eq_getElem (by rw [HN.out]; exact hlt)]
          exact List.getElem_mem _
        rw [hh] at hcall
        clear hh
        generalize xs.getD j 0 = y at *
        go_wp2_with fail
        refine same_mono hcall ?_
        go_wp2
        go_ret
        exact ⟨⟨_, rfl, by rw [HF.out]; simp⟩, rfl⟩
      | false =>
        have HS : Hid (∀ i, i < j + 1 → hasI10 ys (xs.getD i 0) = false) := fun i hi => by
          by_cases e : i = j
          · rw [e]; exact hh
          · exact hok.out i (by omega)
        rw [hh] at hcall
        clear hh hok
        generalize xs.getD j 0 = y at *
        go_wp2_with fail
        refine same_mono hcall ?_
        go_wp2
        go_roundw
        case rel => exact ⟨j + 1, by omega, by go_num, by trivial, HS.out⟩
        case measure => simp only [intOf]; omega
    · have HF : Hid ((xs.any fun x => hasI10 ys x) = false) := by
        rw [Hid, List.any_eq_false]
        intro a ha
        obtain ⟨i, hi, rfl⟩ := List.getElem_of_mem ha
        have := hok.out i (by rw [HN.out] at hi; omega)
        rw [List.getD_eq_getElem?_getD, List.getElem?_eq_getElem hi] at this
        simpa using this
      go_wp2
      go_ret
      exact ⟨⟨_, rfl, by rw [HF.out]; rfl⟩, rfl⟩

set_option maxRecDepth 100000 in
set_option maxHeartbeats 1500000 in
theorem containsF_any (p q : Option Addr) (n c m d b : Nat) (xs ys : List Int) (w : World) (h : HasI w (.slice p n c) xs) (hl : xs.length ≤ 17592186044416) (h2 : HasI w (.slice q m d) ys) (hl2 : ys.length ≤ 17592186044416) (hb : w.cell? ⟨b, 0, none⟩ = some (.slice q m d)) (hblt : b < w.heap.size) :
    Calls Tryz.prog 98 #[.slice p n c, .func (.func 99) #[] #[.pointer (some ⟨b, 0, none⟩)]] w fun e w' => e = .returned (.bool (xs.any fun x => hasI10 ys x)) ∧ w' = w := by
  have hk := indexF_any p q n c m d b xs ys w h hl h2 hl2 hb hblt
  generalize (xs.any fun x => hasI10 ys x) = r at *
  clear h hl h2 hl2 hb
  go_enter Tryz.func98, Tryz.ntmps98
  go_wp2_with fail
  refine hk.mono ?_
  rintro e w' ⟨⟨i, rfl, hi⟩, rfl⟩
  have HI : Hid (decide (0 ≤ i) = r) := hi
  clear hk hi
  go_wp2
  go_ret
  rw [← HI.out]
  exact ⟨rfl, rfl⟩

set_option maxRecDepth 100000 in
set_option maxHeartbeats 1500000 in
theorem apart_any (p q : Option Addr) (n c m d : Nat) (xs ys : List Int) (w : World) (h : HasI w (.slice p n c) xs) (hl : xs.length ≤ 17592186044416) (h2 : HasI w (.slice q m d) ys) (hl2 : ys.length ≤ 17592186044416) :
    Calls Tryz.prog 66 #[.slice p n c, .slice q m d] w fun e w' => e = .returned (.bool (!(xs.any fun x => hasI10 ys x))) ∧ Below w.heap.size w w' := by
  have hmf : ∀ (fn : Fn) (first cap : Array Value) (w : World), (Instr.makeFunc fn first cap).run Tryz.prog w = .ok (.func fn first cap) w := fun _ _ _ _ => rfl
  have hB : ∀ x : Obj, Below w.heap.size w (w.alloc x) := fun x => (Below.refl _ _).alloc (Nat.le_refl _) x
  have hB1 := hB (.cells #[.slice q m d] 26)
  have hbox := heap_alloc_new w (.cells #[.slice q m d] 26)
  have hk := containsF_any p q n c m d w.heap.size xs ys (w.alloc (.cells #[.slice q m d] 26)) (h.below hB1 (Nat.le_refl _)) hl (h2.below hB1 (Nat.le_refl _)) hl2 (box_cell hbox 0) (by simp)
  generalize (xs.any fun x => hasI10 ys x) = r at *
  clear h hl h2 hl2 hbox hB
  go_enter Tryz.func66, Tryz.ntmps66
  go_wp2_with fail
  refine same_mono hk ?_
  go_wp2
  go_ret
  exact ⟨rfl, hB1⟩

theorem goodF10_is (c : Conf10) : goodF10 c = (!c.vs.isEmpty && rises10 c.vs && rises10 c.ls && !(c.vs.any fun x => hasI10 c.ls x)) := by
  rw [Bool.eq_iff_iff]
  unfold goodF10 hasI10
  simp only [Bool.and_eq_true, Bool.not_eq_true', List.all_eq_true, List.any_eq_false, List.any_eq_true, decide_eq_false_iff_not, decide_eq_true_eq, not_exists, not_and]
  constructor
  · rintro ⟨⟨⟨h1, h2⟩, h3⟩, h4⟩
    exact ⟨⟨⟨h3, h1⟩, h2⟩, fun a ha b hb => h4 a ha b hb⟩
  · rintro ⟨⟨⟨h3, h1⟩, h2⟩, h4⟩
    exact ⟨⟨⟨h1, h2⟩, h3⟩, fun a ha b hb => h4 a ha b hb⟩
set_option maxRecDepth 100000 in
set_option maxHeartbeats 1500000 in
theorem goodConf_any (x : ConfV) (w : World) (h : FitsF w x) : Calls Tryz.prog 25 #[.agg x.arr] w fun e w' => e = .returned (.bool (goodF10 x.f)) ∧ Below w.heap.size w w' := by
  have HG : Hid (goodF10 x.f = (!x.f.vs.isEmpty && rises10 x.f.vs && rises10 x.f.ls && !(x.f.vs.any fun a => hasI10 x.f.ls a))) := goodF10_is x.f
  have hB1 : Below w.heap.size w (w.alloc (.cells x.arr 28)) := (Below.refl _ _).alloc (Nat.le_refl _) _
  have h1 := h.below hB1
  have k1 := rise_any _ _ _ _ _ h1.u h1.lu
  have k2 := rise_any _ _ _ _ _ h1.v h1.lv
  have k3 := apart_any _ _ _ _ _ _ _ _ _ h1.u h1.lu h1.v h1.lv
  have hn := h.u.len.1
  have HE : Hid (x.f.vs.isEmpty = decide (x.u.n = 0)) := by
    rw [Hid, ← hn]
    cases x.f.vs <;> simp
  have hzz : (w.alloc (.cells x.arr 28)).heap.size = w.heap.size + 1 := by simp
  obtain ⟨⟨p, n, c⟩, ⟨q, m, d⟩, f⟩ := x
  unfold ConfV.arr at *
  dsimp only at *
  generalize rises10 f.vs = r1 at *
  generalize rises10 f.ls = r2 at *
  generalize (f.vs.any fun a => hasI10 f.ls a) = r3 at *
  clear h h1 hn
  by_cases h0 : n = 0
  · have HF : Hid (goodF10 f = false) := by rw [Hid, HG.out, HE.out, decide_eq_true h0]; rfl
    subst h0
    clear HG HE
    go_enter Tryz.func25, Tryz.ntmps25
    go_wp2
    go_ret
    rw [HF.out]
    exact ⟨rfl, hB1⟩
  · have HF : Hid (goodF10 f = (r1 && r2 && !r3)) := by rw [Hid, HG.out, HE.out, decide_eq_false h0]; simp
    have hpos : (0 : Int) < (n : Int) := by omega
    clear HG HE
    cases r1 with
    | false =>
      go_enter Tryz.func25, Tryz.ntmps25
      go_wp2_with fail
      refine same_mono k1 ?_
      go_wp2
      go_ret
      rw [HF.out]
      exact ⟨rfl, hB1⟩
    | true =>
      cases r2 with
      | false =>
        go_enter Tryz.func25, Tryz.ntmps25
        go_wp2_with fail
        refine same_mono k1 ?_
        go_wp2_with fail
        refine same_mono k2 ?_
        go_wp2
        go_ret
        rw [HF.out]
        exact ⟨rfl, hB1⟩
      | true =>
        go_enter Tryz.func25, Tryz.ntmps25
        go_wp2_with fail
        refine same_mono k1 ?_
        go_wp2_with fail
        refine same_mono k2 ?_
        go_wp2_with fail
        refine k3.mono ?_
        rintro e w1 ⟨rfl, hb1⟩
        have hB2 := hB1.trans (hb1.mono hB1.size)
        go_wp2
        go_ret
        rw [HF.out]
        exact ⟨by simp, hB2⟩
end Go.Proofs.YtnbaoimjcaeeaaaGreat

/-
  Contracts: command.rule and what it tells, command.Good.
-/
namespace Go.Proofs.YtnbaoimjcaeeaaaGreat
open Go.RowKit Go.Lib Go.Shelf

set_option maxRecDepth 100000 in
set_option maxHeartbeats 1500000 in
theorem rule1_any (b : Nat) (c : Cmd9) (w : World) (h : CmdAt w b c) (hk : c.k = 1) : Calls Tryz.prog 124 #[.pointer (some ⟨b, 0, none⟩)] w fun e w' => e = .returned (.bool (good9 c)) ∧ Below w.heap.size w w' := by
  have HG : Hid (good9 c = same9 c ⟨1, 0, 0, em9, em9, em9, em9, 0⟩) := by
    show _ = _
    unfold good9
    rw [if_pos hk]
  obtain ⟨c0, c1, c2, c3, c4, c5, c6, c7⟩ := h.cells
  have hlt := h.lt
  have he := eqlC
  have hg := grdC
  obtain ⟨k, s, q, key, old, val, unt, lim⟩ := c
  dsimp only at *
  subst hk
  go_enter Tryz.func124, Tryz.ntmps124
  go_wp2
  go_ret
  rw [HG.out]
  exact ⟨rfl, Below.refl _ _⟩

set_option maxRecDepth 100000 in
set_option maxHeartbeats 1500000 in
theorem rule2_any (b : Nat) (c : Cmd9) (w : World) (h : CmdAt w b c) (hk : c.k = 2) : Calls Tryz.prog 125 #[.pointer (some ⟨b, 0, none⟩)] w fun e w' => e = .returned (.bool (good9 c)) ∧ Below w.heap.size w w' := by
  have HG : Hid (good9 c = (decide (1 ≤ c.s) && same9 c ⟨c.k, c.s, 0, em9, em9, em9, em9, 0⟩)) := by
    show _ = _
    unfold good9
    rw [if_neg (by omega), if_pos hk]
  obtain ⟨c0, c1, c2, c3, c4, c5, c6, c7⟩ := h.cells
  have hlt := h.lt
  have he := eqlC
  have hg := grdC
  obtain ⟨k, s, q, key, old, val, unt, lim⟩ := c
  dsimp only at *
  subst hk
  by_cases h1 : 1 ≤ s
  · have HB : Hid (good9 ⟨2, s, q, key, old, val, unt, lim⟩ = same9 ⟨2, s, q, key, old, val, unt, lim⟩ ⟨2, s, 0, em9, em9, em9, em9, 0⟩) := by
      show _ = _
      rw [HG.out, decide_eq_true h1]
      rfl
    clear HG
    go_enter Tryz.func125, Tryz.ntmps125
    go_wp2
    go_ret
    rw [HB.out]
    exact ⟨rfl, Below.refl _ _⟩
  · have HB : Hid (good9 ⟨2, s, q, key, old, val, unt, lim⟩ = false) := by
      show _ = _
      rw [HG.out, decide_eq_false h1]
      rfl
    clear HG
    go_enter Tryz.func125, Tryz.ntmps125
    go_wp2
    go_ret
    rw [HB.out]
    exact ⟨rfl, Below.refl _ _⟩

set_option maxRecDepth 100000 in
set_option maxHeartbeats 1500000 in
theorem rule3_any (b : Nat) (c : Cmd9) (w : World) (h : CmdAt w b c) (hk : c.k = 3) : Calls Tryz.prog 126 #[.pointer (some ⟨b, 0, none⟩)] w fun e w' => e = .returned (.bool (good9 c)) ∧ Below w.heap.size w w' := by
  have HG : Hid (good9 c = (isKey9 c.key && isVal9 c.val && asks9 c ⟨0, 0, 0, c.key, em9, c.val, em9, 0⟩)) := by
    show _ = _
    unfold good9
    rw [if_neg (by omega), if_neg (by omega), if_pos hk]
  obtain ⟨c0, c1, c2, c3, c4, c5, c6, c7⟩ := h.cells
  have hlt := h.lt
  have k1 := isKey_any c.key w
  have k2 := isValue_any c.val w
  have k9 := asks_any c ⟨0, 0, 0, c.key, em9, c.val, em9, 0⟩ w
  unfold Cmd9.arr at k9
  generalize hr : good9 c = r at *
  clear hr hk
  generalize isKey9 c.key = b1 at *
  generalize isVal9 c.val = b2 at *
  generalize asks9 c _ = b9 at *
  obtain ⟨k, s, q, key, old, val, unt, lim⟩ := c
  dsimp only at *
  cases b1 with
  | false =>
    go_enter Tryz.func126, Tryz.ntmps126
    go_wp2_with fail
    refine same_mono k1 ?_
    go_wp2
    go_ret
    rw [HG.out]
    exact ⟨rfl, Below.refl _ _⟩
  | true =>
    cases b2 with
    | false =>
      go_enter Tryz.func126, Tryz.ntmps126
      go_wp2_with fail
      refine same_mono k1 ?_
      go_wp2_with fail
      refine same_mono k2 ?_
      go_wp2
      go_ret
      rw [HG.out]
      exact ⟨rfl, Below.refl _ _⟩
    | true =>
      go_enter Tryz.func126, Tryz.ntmps126
      go_wp2_with fail
      refine same_mono k1 ?_
      go_wp2_with fail
      refine same_mono k2 ?_
      go_wp2_with fail
      refine k9.mono ?_
      rintro e w1 ⟨rfl, hb1⟩
      go_wp2
      go_ret
      rw [HG.out]
      exact ⟨rfl, hb1⟩

set_option maxRecDepth 100000 in
set_option maxHeartbeats 1500000 in
theorem rule4_any (b : Nat) (c : Cmd9) (w : World) (h : CmdAt w b c) (hk : c.k = 4 ∨ c.k = 5) : Calls Tryz.prog 130 #[.pointer (some ⟨b, 0, none⟩)] w fun e w' => e = .returned (.bool (good9 c)) ∧ Below w.heap.size w w' := by
  have HG : Hid (good9 c = (isKey9 c.key && asks9 c ⟨0, 0, 0, c.key, em9, em9, em9, 0⟩)) := by
    show _ = _
    unfold good9
    rw [if_neg (by omega), if_neg (by omega), if_neg (by omega), if_pos hk]
  obtain ⟨c0, c1, c2, c3, c4, c5, c6, c7⟩ := h.cells
  have hlt := h.lt
  have k1 := isKey_any c.key w
  have k9 := asks_any c ⟨0, 0, 0, c.key, em9, em9, em9, 0⟩ w
  unfold Cmd9.arr at k9
  generalize hr : good9 c = r at *
  clear hr hk
  generalize isKey9 c.key = b1 at *
  generalize asks9 c _ = b9 at *
  obtain ⟨k, s, q, key, old, val, unt, lim⟩ := c
  dsimp only at *
  cases b1 with
  | false =>
    go_enter Tryz.func130, Tryz.ntmps130
    go_wp2_with fail
    refine same_mono k1 ?_
    go_wp2
    go_ret
    rw [HG.out]
    exact ⟨rfl, Below.refl _ _⟩
  | true =>
    go_enter Tryz.func130, Tryz.ntmps130
    go_wp2_with fail
    refine same_mono k1 ?_
    go_wp2_with fail
    refine k9.mono ?_
    rintro e w1 ⟨rfl, hb1⟩
    go_wp2
    go_ret
    rw [HG.out]
    exact ⟨rfl, hb1⟩

set_option maxRecDepth 100000 in
set_option maxHeartbeats 1500000 in
theorem rule5_any (b : Nat) (c : Cmd9) (w : World) (h : CmdAt w b c) (hk : c.k = 6) : Calls Tryz.prog 131 #[.pointer (some ⟨b, 0, none⟩)] w fun e w' => e = .returned (.bool (good9 c)) ∧ Below w.heap.size w w' := by
  have HG : Hid (good9 c = (isKey9 c.key && isVal9 c.old && isVal9 c.val && asks9 c ⟨0, 0, 0, c.key, c.old, c.val, em9, 0⟩)) := by
    show _ = _
    unfold good9
    rw [if_neg (by omega), if_neg (by omega), if_neg (by omega), if_neg (by omega), if_pos hk]
  obtain ⟨c0, c1, c2, c3, c4, c5, c6, c7⟩ := h.cells
  have hlt := h.lt
  have k1 := isKey_any c.key w
  have k2 := isValue_any c.old w
  have k3 := isValue_any c.val w
  have k9 := asks_any c ⟨0, 0, 0, c.key, c.old, c.val, em9, 0⟩ w
  unfold Cmd9.arr at k9
  generalize hr : good9 c = r at *
  clear hr hk
  generalize isKey9 c.key = b1 at *
  generalize isVal9 c.old = b2 at *
  generalize isVal9 c.val = b3 at *
  generalize asks9 c _ = b9 at *
  obtain ⟨k, s, q, key, old, val, unt, lim⟩ := c
  dsimp only at *
  cases b1 with
  | false =>
    go_enter Tryz.func131, Tryz.ntmps131
    go_wp2_with fail
    refine same_mono k1 ?_
    go_wp2
    go_ret
    rw [HG.out]
    exact ⟨rfl, Below.refl _ _⟩
  | true =>
    cases b2 with
    | false =>
      go_enter Tryz.func131, Tryz.ntmps131
      go_wp2_with fail
      refine same_mono k1 ?_
      go_wp2_with fail
      refine same_mono k2 ?_
      go_wp2
      go_ret
      rw [HG.out]
      exact ⟨rfl, Below.refl _ _⟩
    | true =>
      cases b3 with
      | false =>
        go_enter Tryz.func131, Tryz.ntmps131
        go_wp2_with fail
        refine same_mono k1 ?_
        go_wp2_with fail
        refine same_mono k2 ?_
        go_wp2_with fail
        refine same_mono k3 ?_
        go_wp2
        go_ret
        rw [HG.out]
        exact ⟨rfl, Below.refl _ _⟩
      | true =>
        go_enter Tryz.func131, Tryz.ntmps131
        go_wp2_with fail
        refine same_mono k1 ?_
        go_wp2_with fail
        refine same_mono k2 ?_
        go_wp2_with fail
        refine same_mono k3 ?_
        go_wp2_with fail
        refine k9.mono ?_
        rintro e w1 ⟨rfl, hb1⟩
        go_wp2
        go_ret
        rw [HG.out]
        exact ⟨rfl, hb1⟩

set_option maxRecDepth 100000 in
set_option maxHeartbeats 1500000 in
theorem rule6_any (b : Nat) (c : Cmd9) (w : World) (h : CmdAt w b c) (hk : c.k = 7) : Calls Tryz.prog 132 #[.pointer (some ⟨b, 0, none⟩)] w fun e w' => e = .returned (.bool (good9 c)) ∧ Below w.heap.size w w' := by
  have HG : Hid (good9 c = (isBnd9 c.key && isBnd9 c.unt && isLim9 c.lim && asks9 c ⟨0, 0, 0, c.key, em9, em9, c.unt, c.lim⟩)) := by
    show _ = _
    unfold good9
    rw [if_neg (by omega), if_neg (by omega), if_neg (by omega), if_neg (by omega), if_neg (by omega), if_pos hk]
  obtain ⟨c0, c1, c2, c3, c4, c5, c6, c7⟩ := h.cells
  have hlt := h.lt
  have k1 := isBound_any c.key w
  have k2 := isBound_any c.unt w
  have k3 := isLimit_any c.lim w
  have k9 := asks_any c ⟨0, 0, 0, c.key, em9, em9, c.unt, c.lim⟩ w
  unfold Cmd9.arr at k9
  generalize hr : good9 c = r at *
  clear hr hk
  generalize isBnd9 c.key = b1 at *
  generalize isBnd9 c.unt = b2 at *
  generalize isLim9 c.lim = b3 at *
  generalize asks9 c _ = b9 at *
  obtain ⟨k, s, q, key, old, val, unt, lim⟩ := c
  dsimp only at *
  cases b1 with
  | false =>
    go_enter Tryz.func132, Tryz.ntmps132
    go_wp2_with fail
    refine same_mono k1 ?_
    go_wp2
    go_ret
    rw [HG.out]
    exact ⟨rfl, Below.refl _ _⟩
  | true =>
    cases b2 with
    | false =>
      go_enter Tryz.func132, Tryz.ntmps132
      go_wp2_with fail
      refine same_mono k1 ?_
      go_wp2_with fail
      refine same_mono k2 ?_
      go_wp2
      go_ret
      rw [HG.out]
      exact ⟨rfl, Below.refl _ _⟩
    | true =>
      cases b3 with
      | false =>
        go_enter Tryz.func132, Tryz.ntmps132
        go_wp2_with fail
        refine same_mono k1 ?_
        go_wp2_with fail
        refine same_mono k2 ?_
        go_wp2_with fail
        refine same_mono k3 ?_
        go_wp2
        go_ret
        rw [HG.out]
        exact ⟨rfl, Below.refl _ _⟩
      | true =>
        go_enter Tryz.func132, Tryz.ntmps132
        go_wp2_with fail
        refine same_mono k1 ?_
        go_wp2_with fail
        refine same_mono k2 ?_
        go_wp2_with fail
        refine same_mono k3 ?_
        go_wp2_with fail
        refine k9.mono ?_
        rintro e w1 ⟨rfl, hb1⟩
        go_wp2
        go_ret
        rw [HG.out]
        exact ⟨rfl, hb1⟩

set_option maxRecDepth 100000 in
theorem rule7_any (c : Cmd9) (w : World) (hk : c.k ≠ 1 ∧ c.k ≠ 2 ∧ c.k ≠ 3 ∧ ¬ (c.k = 4 ∨ c.k = 5) ∧ c.k ≠ 6 ∧ c.k ≠ 7) : Calls Tryz.prog 135 #[] w fun e w' => e = .returned (.bool (good9 c)) ∧ Below w.heap.size w w' := by
  have HG : Hid (good9 c = false) := by
    show _ = _
    unfold good9
    rw [if_neg hk.1, if_neg hk.2.1, if_neg hk.2.2.1, if_neg hk.2.2.2.1, if_neg hk.2.2.2.2.1, if_neg hk.2.2.2.2.2]
  go_enter Tryz.func135, Tryz.ntmps135
  go_wp2
  go_ret
  rw [HG.out]
  exact ⟨rfl, Below.refl _ _⟩

/-- A function value that tells whether c is good. -/
def Tells9 (w : World) (c : Cmd9) (v : Value) : Prop :=
  ∃ (f : FuncId) (cap : Array Value), v = .func (.func f) #[] cap ∧ (∀ args w, (callFunc f args).run Tryz.prog w = .ok (.enter f args) w) ∧ ∀ w', Below w.heap.size w w' → Calls Tryz.prog f cap w' fun e w'' => e = .returned (.bool (good9 c)) ∧ Below w'.heap.size w' w''

set_option maxRecDepth 100000 in
set_option maxHeartbeats 1500000 in
theorem rule_any (c : Cmd9) (w : World) : Calls Tryz.prog 97 #[.agg c.arr] w fun e w' => ∃ v, e = .returned v ∧ Tells9 w' c v ∧ Below w.heap.size w w' := by
  have hB : Below w.heap.size w (w.alloc (.cells c.arr 25)) := (Below.refl _ _).alloc (Nat.le_refl _) _
  have HA : Hid (CmdAt (w.alloc (.cells c.arr 25)) w.heap.size c) := CmdAt.new w c
  obtain ⟨c0, -⟩ := HA.out.cells
  have hmf : ∀ (fn : Fn) (first cap : Array Value) (w : World), (Instr.makeFunc fn first cap).run Tryz.prog w = .ok (.func fn first cap) w := fun _ _ _ _ => rfl
  have hz : (w.alloc (.cells c.arr 25)).heap.size = w.heap.size + 1 := by simp
  obtain ⟨k, s, q, key, old, val, unt, lim⟩ := c
  unfold Cmd9.arr at *
  dsimp only at *
  by_cases h1 : k = 1
  · subst h1
    go_enter Tryz.func97, Tryz.ntmps97
    go_wp2
    go_ret
    exact ⟨_, rfl, ⟨124, #[.pointer (some ⟨w.heap.size, 0, none⟩)], rfl, enters_of Tryz.func124 (by kernel_rfl) rfl, fun w' hb => rule1_any _ _ _ (HA.out.below hb) rfl⟩, hB⟩
  by_cases h2 : k = 2
  · subst h2
    go_enter Tryz.func97, Tryz.ntmps97
    go_wp2
    go_ret
    exact ⟨_, rfl, ⟨125, #[.pointer (some ⟨w.heap.size, 0, none⟩)], rfl, enters_of Tryz.func125 (by kernel_rfl) rfl, fun w' hb => rule2_any _ _ _ (HA.out.below hb) rfl⟩, hB⟩
  by_cases h3 : k = 3
  · subst h3
    go_enter Tryz.func97, Tryz.ntmps97
    go_wp2
    go_ret
    exact ⟨_, rfl, ⟨126, #[.pointer (some ⟨w.heap.size, 0, none⟩)], rfl, enters_of Tryz.func126 (by kernel_rfl) rfl, fun w' hb => rule3_any _ _ _ (HA.out.below hb) rfl⟩, hB⟩
  by_cases h4 : k = 4
  · subst h4
    go_enter Tryz.func97, Tryz.ntmps97
    go_wp2
    go_ret
    exact ⟨_, rfl, ⟨130, #[.pointer (some ⟨w.heap.size, 0, none⟩)], rfl, enters_of Tryz.func130 (by kernel_rfl) rfl, fun w' hb => rule4_any _ _ _ (HA.out.below hb) (.inl rfl)⟩, hB⟩
  by_cases h5 : k = 5
  · subst h5
    go_enter Tryz.func97, Tryz.ntmps97
    go_wp2
    go_ret
    exact ⟨_, rfl, ⟨130, #[.pointer (some ⟨w.heap.size, 0, none⟩)], rfl, enters_of Tryz.func130 (by kernel_rfl) rfl, fun w' hb => rule4_any _ _ _ (HA.out.below hb) (.inr rfl)⟩, hB⟩
  by_cases h6 : k = 6
  · subst h6
    go_enter Tryz.func97, Tryz.ntmps97
    go_wp2
    go_ret
    exact ⟨_, rfl, ⟨131, #[.pointer (some ⟨w.heap.size, 0, none⟩)], rfl, enters_of Tryz.func131 (by kernel_rfl) rfl, fun w' hb => rule5_any _ _ _ (HA.out.below hb) rfl⟩, hB⟩
  by_cases h7 : k = 7
  · subst h7
    go_enter Tryz.func97, Tryz.ntmps97
    go_wp2
    go_ret
    exact ⟨_, rfl, ⟨132, #[.pointer (some ⟨w.heap.size, 0, none⟩)], rfl, enters_of Tryz.func132 (by kernel_rfl) rfl, fun w' hb => rule6_any _ _ _ (HA.out.below hb) rfl⟩, hB⟩
  have H7 : Hid (k ≠ 1 ∧ k ≠ 2 ∧ k ≠ 3 ∧ ¬ (k = 4 ∨ k = 5) ∧ k ≠ 6 ∧ k ≠ 7) := ⟨h1, h2, h3, by omega, h6, h7⟩
  go_enter Tryz.func97, Tryz.ntmps97
  go_wp2
  go_ret
  exact ⟨_, rfl, ⟨135, #[], rfl, enters_of Tryz.func135 (by kernel_rfl) rfl, fun w' hb => rule7_any _ _ H7.out⟩, hB⟩

set_option maxRecDepth 100000 in
set_option maxHeartbeats 1500000 in
theorem good_any (c : Cmd9) (w : World) : Calls Tryz.prog 64 #[.agg c.arr] w fun e w' => e = .returned (.bool (good9 c)) ∧ Below w.heap.size w w' := by
  have hB : Below w.heap.size w (w.alloc (.cells c.arr 25)) := (Below.refl _ _).alloc (Nat.le_refl _) _
  have hr := rule_any c (w.alloc (.cells c.arr 25))
  generalize hG : good9 c = r at *
  unfold Tells9 at hr
  rw [hG] at hr
  clear hG
  obtain ⟨k, s, q, key, old, val, unt, lim⟩ := c
  unfold Cmd9.arr at *
  dsimp only at *
  go_enter Tryz.func64, Tryz.ntmps64
  go_wp2_with fail
  generalize w.alloc (.cells #[.int .i64 k, .int .i64 s, .int .i64 q, .string key, .string old, .string val, .string unt, .int .i64 lim] 25) = W at *
  refine hr.mono ?_
  rintro e w1 ⟨v, rfl, ⟨f, cap, rfl, eg, hf⟩, hb1⟩
  have hz := hB.size
  have hf1 := hf w1 (Below.refl _ _)
  clear hr hf
  go_wp2_with fail
  refine hf1.mono ?_
  rintro e w2 ⟨rfl, hb2⟩
  have hb1z := hb1.size
  have hB2 : Below w.heap.size w w2 := (hB.trans (hb1.mono hz)).trans (hb2.mono (by omega))
  go_wp2
  go_ret
  exact ⟨rfl, hB2⟩
end Go.Proofs.YtnbaoimjcaeeaaaGreat
