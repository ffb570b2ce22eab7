import Derived.Test.YtkocomfcjklgcaaEnV
import Derived.WalkKit
import Derived.Lib.Bytealg
import Derived.Lib.Strings
import Derived.Test.YtkocomfcjklgcaaChecked
import Derived.Test.YtkocomfcjklgcaaBase
import Derived.Test.YtkocomfcjklgcaaGet0To
import Derived.Test.YtkocomfcjklgcaaW7
import Derived.BigQuiet
import Derived.WalkSmall
import Derived.Laws.BytesArg
import Derived.Laws.StructEq
import Derived.Shelf.SlicesE.Kit
import Derived.Deep.MidRow
import Derived.Deep.RegionHeld3
import Derived.Shelf.Abstract
import Derived.Deep.QuietTactic
namespace Go.Proofs.Ytkocomfcjklgcaa
open Go.RowKit
def isNode10 (n : Int) : Bool := decide (1 ≤ n ∧ n ≤ 9)
def okAt10 (l : List Int) (i : Nat) : Bool := decide (1 ≤ l.getD i 0) && decide (l.getD i 0 ≤ 9) && (decide (i = 0) || decide (l.getD (i - 1) 0 < l.getD i 0))
theorem rises10_is (l : List Int) : rises10 l = (List.range l.length).all (okAt10 l) := rfl
theorem rises10_no {l : List Int} {i : Nat} (hi : i < l.length) (h : okAt10 l i = false) : rises10 l = false := by
  cases hr : rises10 l with
  | false => rfl
  | true =>
    rw [rises10_is, List.all_eq_true] at hr
    have := hr i (List.mem_range.2 hi)
    rw [h] at this
    cases this
theorem rises10_yes {l : List Int} (h : ∀ i, i < l.length → okAt10 l i = true) : rises10 l = true := by
  rw [rises10_is, List.all_eq_true]
  exact fun i hi => h i (List.mem_range.1 hi)
theorem okAt10_iff (l : List Int) (i : Nat) : okAt10 l i = true ↔ (1 ≤ l.getD i 0 ∧ l.getD i 0 ≤ 9) ∧ (i = 0 ∨ l.getD (i - 1) 0 < l.getD i 0) := by
  unfold okAt10
  simp only [Bool.and_eq_true, Bool.or_eq_true, decide_eq_true_eq]
def last10 (l : List Int) (j : Nat) : Int := if j = 0 then 0 else l.getD (j - 1) 0
theorem okAt10_last (l : List Int) (j : Nat) : okAt10 l j = (isNode10 (l.getD j 0) && !decide (l.getD j 0 ≤ last10 l j)) := by
  rw [Bool.eq_iff_iff, okAt10_iff]
  unfold isNode10 last10
  simp only [Bool.and_eq_true, decide_eq_true_eq, Bool.not_eq_true', decide_eq_false_iff_not]
  by_cases h : j = 0
  · rw [if_pos h]; omega
  · rw [if_neg h]; omega
set_option maxRecDepth 100000 in
theorem isNode_any (n : Int) (w : World) : Calls Try.prog 48 #[.int .i64 n] w fun e w' => e = .returned (.bool (isNode10 n)) ∧ w' = w := by
  by_cases h0 : 1 ≤ n
  · have HK : Hid (isNode10 n = decide (n ≤ 9)) := by
      show _ = _
      unfold isNode10
      rw [decide_eq_decide]
      omega
    go_enter Try.func48, Try.ntmps48
    go_wp2
    go_ret
    rw [HK.out]
    exact ⟨rfl, rfl⟩
  · have HK : Hid (isNode10 n = false) := by
      show _ = _
      unfold isNode10
      exact decide_eq_false (by omega)
    go_enter Try.func48, Try.ntmps48
    go_wp2
    go_ret
    rw [HK.out]
    exact ⟨rfl, rfl⟩

set_option maxRecDepth 100000 in
set_option maxHeartbeats 1500000 in
theorem rise_any (p : Option Addr) (n c : Nat) (xs : List Int) (w : World) (h : HasI w (.slice p n c) xs) (hl : xs.length ≤ 17592186044416) :
    Calls Try.prog 41 #[.slice p n c] w fun e w' => e = .returned (.bool (rises10 xs)) ∧ w' = w := by
  obtain ⟨hn, hc, -⟩ := h.len
  have HN : Hid (xs.length = n) := hn
  rw [hn] at hl
  have HX : Hid (HasI w (.slice p n c) xs) := h
  clear hn h
  go_enter Try.func41, Try.ntmps41
  go_wp2
  go_loopw [3, 8] (fun s3 s8 wr => ∃ j : Nat, j ≤ n ∧ s8 = .int .i64 (j : Nat) ∧ s3 = .int .i64 (last10 xs j) ∧ wr = w ∧ Hid (∀ i, i < j → okAt10 xs i = true)) (fun _ s8 _ => n - (intOf s8).toNat)
  case atStart => exact ⟨0, Nat.zero_le _, rfl, rfl, rfl, fun i hi => by omega⟩
  case round =>
    obtain ⟨j, hj, rfl, rfl, rfl, hok⟩ := hrel
    by_cases hlt : j < n
    · obtain ⟨b, o, rfl, hb, hcell⟩ := HX.out.at hlt
      have HO : Hid (okAt10 xs j = (isNode10 (xs.getD j 0) && !decide (xs.getD j 0 ≤ last10 xs j))) := okAt10_last xs j
      have HL : Hid (last10 xs (j + 1) = xs.getD j 0) := by rw [Hid, last10, if_neg (by omega)]; rfl
      generalize xs.getD j 0 = x at *
      generalize last10 xs j = y at *
      have hnode := isNode_any x wr
      generalize isNode10 x = bb at *
      cases bb with
      | false =>
        have HF : Hid (rises10 xs = false) := rises10_no (by rw [HN.out]; exact hlt) (by rw [HO.out]; rfl)
        go_wp2_with fail
        refine same_mono hnode ?_
        go_wp2
        go_ret
        rw [HF.out]
        exact ⟨rfl, rfl⟩
      | true =>
        by_cases hxy : x ≤ y
        · have HF : Hid (rises10 xs = false) := rises10_no (by rw [HN.out]; exact hlt) (by rw [HO.out, decide_eq_true hxy]; rfl)
          go_wp2_with fail
          refine same_mono hnode ?_
          go_wp2
          go_ret
          rw [HF.out]
          exact ⟨rfl, rfl⟩
        · have HT : Hid (okAt10 xs j = true) := by rw [Hid, HO.out, decide_eq_false hxy]; rfl
          go_wp2_with fail
          refine same_mono hnode ?_
          go_wp2
          go_roundw
          case rel =>
            refine ⟨j + 1, by omega, by go_num, by rw [HL.out], by trivial, fun i hi => ?_⟩
            by_cases e : i = j
            · rw [e]; exact HT.out
            · exact hok.out i (by omega)
          case measure => simp only [intOf]; omega
    · have HT : Hid (rises10 xs = true) := rises10_yes fun i hi => hok.out i (by rw [HN.out] at hi; omega)
      go_wp2
      go_ret
      rw [HT.out]
      exact ⟨rfl, rfl⟩

def hasI10 (l : List Int) (x : Int) : Bool := l.any fun a => decide (x = a)
theorem hasI10_no {l : List Int} {x : Int} (h : ∀ i, i < l.length → x ≠ l.getD i 0) : hasI10 l x = false := by
  unfold hasI10
  rw [List.any_eq_false]
  intro a ha
  obtain ⟨i, hi, rfl⟩ := List.getElem_of_mem ha
  have := h i hi
  rw [List.getD_eq_getElem?_getD, List.getElem?_eq_getElem hi] at this
  simpa using this
theorem hasI10_yes {l : List Int} {x : Int} {i : Nat} (hi : i < l.length) (h : x = l.getD i 0) : hasI10 l x = true := by
  unfold hasI10
  rw [List.any_eq_true]
  refine ⟨l.getD i 0, ?_, by simpa using h⟩
  rw [List.getD_eq_getElem?_getD, List.getElem?_eq_getElem hi]
  exact List.getElem_mem hi

set_option maxRecDepth 100000 in
set_option maxHeartbeats 1500000 in
theorem indexI_any (p : Option Addr) (n c : Nat) (xs : List Int) (x : Int) (w : World) (h : HasI w (.slice p n c) xs) (hl : xs.length ≤ 17592186044416) :
    Calls Try.prog 40 #[.slice p n c, .int .i64 x] w fun e w' => (∃ i : Int, e = .returned (.int .i64 i) ∧ decide (0 ≤ i) = hasI10 xs x) ∧ w' = w := by
  obtain ⟨hn, hc, -⟩ := h.len
  have HN : Hid (xs.length = n) := hn
  rw [hn] at hl
  have HX : Hid (HasI w (.slice p n c) xs) := h
  clear hn h
  go_enter Try.func40, Try.ntmps40
  go_wp2
  go_loopw [8] (fun s8 wr => ∃ j : Nat, j ≤ n ∧ s8 = .int .i64 (j : Nat) ∧ wr = w ∧ Hid (∀ i, i < j → x ≠ xs.getD i 0)) (fun s8 _ => n - (intOf s8).toNat)
  case atStart => exact ⟨0, Nat.zero_le _, rfl, rfl, fun i hi => by omega⟩
  case round =>
    obtain ⟨j, hj, rfl, rfl, hok⟩ := hrel
    by_cases hlt : j < n
    · obtain ⟨b, o, rfl, hb, hcell⟩ := HX.out.at hlt
      by_cases hxy : x = xs.getD j 0
      · have HF : Hid (hasI10 xs x = true) := hasI10_yes (by rw [HN.out]; exact hlt) hxy
        have he : (x == xs.getD j 0) = true := by simpa using hxy
        generalize xs.getD j 0 = y at *
        clear hxy
        go_wp2
        go_ret
        exact ⟨⟨_, rfl, by rw [HF.out]; simp⟩, rfl⟩
      · have HF : Hid (x ≠ xs.getD j 0) := hxy
        have he : (x == xs.getD j 0) = false := by simpa using hxy
        clear hxy
        have HS : Hid (∀ i, i < j + 1 → x ≠ xs.getD i 0) := fun i hi => by
          by_cases e : i = j
          · rw [e]; exact HF.out
          · exact hok.out i (by omega)
        clear hok HF
        generalize xs.getD j 0 = y at *
        go_wp2
        go_roundw
        case rel => exact ⟨j + 1, by omega, by go_num, by trivial, HS.out⟩
        case measure => simp only [intOf]; omega
    · have HF : Hid (hasI10 xs x = false) := hasI10_no fun i hi => hok.out i (by rw [HN.out] at hi; omega)
      go_wp2
      go_ret
      exact ⟨⟨_, rfl, by rw [HF.out]; rfl⟩, rfl⟩

set_option maxRecDepth 100000 in
set_option maxHeartbeats 1500000 in
theorem containsI_any (p : Option Addr) (n c : Nat) (xs : List Int) (x : Int) (w : World) (h : HasI w (.slice p n c) xs) (hl : xs.length ≤ 17592186044416) :
    Calls Try.prog 30 #[.slice p n c, .int .i64 x] w fun e w' => e = .returned (.bool (hasI10 xs x)) ∧ w' = w := by
  have hk := indexI_any p n c xs x w h hl
  generalize hasI10 xs x = r at *
  clear h hl
  go_enter Try.func30, Try.ntmps30
  go_wp2_with fail
  refine hk.mono ?_
  rintro e w' ⟨⟨i, rfl, hi⟩, rfl⟩
  have HI : Hid (decide (0 ≤ i) = r) := hi
  clear hk hi
  go_wp2
  go_ret
  rw [← HI.out]
  exact ⟨rfl, rfl⟩

set_option maxRecDepth 100000 in
set_option maxHeartbeats 1500000 in
theorem apart1_any (p : Option Addr) (n c b : Nat) (xs : List Int) (x : Int) (w : World) (h : HasI w (.slice p n c) xs) (hl : xs.length ≤ 17592186044416) (hb : w.cell? ⟨b, 0, none⟩ = some (.slice p n c)) (_hlt : b < w.heap.size) :
    Calls Try.prog 50 #[.int .i64 x, .pointer (some ⟨b, 0, none⟩)] w fun e w' => e = .returned (.bool (hasI10 xs x)) ∧ w' = w := by
  have hk := containsI_any p n c xs x w h hl
  generalize hasI10 xs x = r at *
  clear h hl
  go_enter Try.func50, Try.ntmps50
  go_wp2_with fail
  refine same_mono hk ?_
  go_wp2
  go_ret
  exact ⟨rfl, rfl⟩

set_option maxRecDepth 100000 in
set_option maxHeartbeats 1500000 in
theorem indexF_any (p q : Option Addr) (n c m d b : Nat) (xs ys : List Int) (w : World) (h : HasI w (.slice p n c) xs) (hl : xs.length ≤ 17592186044416) (h2 : HasI w (.slice q m d) ys) (hl2 : ys.length ≤ 17592186044416) (hb : w.cell? ⟨b, 0, none⟩ = some (.slice q m d)) (hblt : b < w.heap.size) :
    Calls Try.prog 43 #[.slice p n c, .func (.func 50) #[] #[.pointer (some ⟨b, 0, none⟩)]] w fun e w' => (∃ i : Int, e = .returned (.int .i64 i) ∧ decide (0 ≤ i) = xs.any fun x => hasI10 ys x) ∧ w' = w := by
  obtain ⟨hn, hc, -⟩ := h.len
  have HN : Hid (xs.length = n) := hn
  rw [hn] at hl
  have HX : Hid (HasI w (.slice p n c) xs) := h
  have HC : Hid (∀ x, Calls Try.prog 50 #[.int .i64 x, .pointer (some ⟨b, 0, none⟩)] w fun e w' => e = .returned (.bool (hasI10 ys x)) ∧ w' = w) := fun x => apart1_any q m d b ys x w h2 hl2 hb hblt
  clear hn h h2 hb hl2
  go_enter Try.func43, Try.ntmps43
  go_wp2
  go_loopw [8] (fun s8 wr => ∃ j : Nat, j ≤ n ∧ s8 = .int .i64 (j : Nat) ∧ wr = w ∧ Hid (∀ i, i < j → hasI10 ys (xs.getD i 0) = false)) (fun s8 _ => n - (intOf s8).toNat)
  case atStart => exact ⟨0, Nat.zero_le _, rfl, rfl, fun i hi => by omega⟩
  case round =>
    obtain ⟨j, hj, rfl, rfl, hok⟩ := hrel
    by_cases hlt : j < n
    · obtain ⟨b1, o1, rfl, hb1, hcell⟩ := HX.out.at hlt
      have hcall := HC.out (xs.getD j 0)
      cases hh : hasI10 ys (xs.getD j 0) with
      | true =>
        have HF : Hid ((xs.any fun x => hasI10 ys x) = true) := by
          rw [Hid, List.any_eq_true]
          refine ⟨xs.getD j 0, ?_, hh⟩
          rw [List.getD_eq_getElem?_getD, List.getElem?_eq_getElem (by rw [HN.out]; exact hlt)]
          exact List.getElem_mem _
        rw [hh] at hcall
        clear hh
        generalize xs.getD j 0 = y at *
        go_wp2_with fail
        refine same_mono hcall ?_
        go_wp2
        go_ret
        exact ⟨⟨_, rfl, by rw [HF.out]; simp⟩, rfl⟩
      | false =>
        have HS : Hid (∀ i, i < j + 1 → hasI10 ys (xs.getD i 0) = false) := fun i hi => by
          by_cases e : i = j
          · rw [e]; exact hh
          · exact hok.out i (by omega)
        rw [hh] at hcall
        clear hh hok
        generalize xs.getD j 0 = y at *
        go_wp2_with fail
        refine same_mono hcall ?_
        go_wp2
        go_roundw
        case rel => exact ⟨j + 1, by omega, by go_num, by trivial, HS.out⟩
        case measure => simp only [intOf]; omega
    · have HF : Hid ((xs.any fun x => hasI10 ys x) = false) := by
        rw [Hid, List.any_eq_false]
        intro a ha
        obtain ⟨i, hi, rfl⟩ := List.getElem_of_mem ha
        have := hok.out i (by rw [HN.out] at hi; omega)
        rw [List.getD_eq_getElem?_getD, List.getElem?_eq_getElem hi] at this
        simpa using this
      go_wp2
      go_ret
      exact ⟨⟨_, rfl, by rw [HF.out]; rfl⟩, rfl⟩

set_option maxRecDepth 100000 in
set_option maxHeartbeats 1500000 in
theorem containsF_any (p q : Option Addr) (n c m d b : Nat) (xs ys : List Int) (w : World) (h : HasI w (.slice p n c) xs) (hl : xs.length ≤ 17592186044416) (h2 : HasI w (.slice q m d) ys) (hl2 : ys.length ≤ 17592186044416) (hb : w.cell? ⟨b, 0, none⟩ = some (.slice q m d)) (hblt : b < w.heap.size) :
    Calls Try.prog 49 #[.slice p n c, .func (.func 50) #[] #[.pointer (some ⟨b, 0, none⟩)]] w fun e w' => e = .returned (.bool (xs.any fun x => hasI10 ys x)) ∧ w' = w := by
  have hk := indexF_any p q n c m d b xs ys w h hl h2 hl2 hb hblt
  generalize (xs.any fun x => hasI10 ys x) = r at *
  clear h hl h2 hl2 hb
  go_enter Try.func49, Try.ntmps49
  go_wp2_with fail
  refine hk.mono ?_
  rintro e w' ⟨⟨i, rfl, hi⟩, rfl⟩
  have HI : Hid (decide (0 ≤ i) = r) := hi
  clear hk hi
  go_wp2
  go_ret
  rw [← HI.out]
  exact ⟨rfl, rfl⟩

set_option maxRecDepth 100000 in
set_option maxHeartbeats 1500000 in
theorem apart_any (p q : Option Addr) (n c m d : Nat) (xs ys : List Int) (w : World) (h : HasI w (.slice p n c) xs) (hl : xs.length ≤ 17592186044416) (h2 : HasI w (.slice q m d) ys) (hl2 : ys.length ≤ 17592186044416) :
    Calls Try.prog 42 #[.slice p n c, .slice q m d] w fun e w' => e = .returned (.bool (!(xs.any fun x => hasI10 ys x))) ∧ Below w.heap.size w w' := by
  have hmf : ∀ (fn : Fn) (first cap : Array Value) (w : World), (Instr.makeFunc fn first cap).run Try.prog w = .ok (.func fn first cap) w := fun _ _ _ _ => rfl
  have hB : ∀ x : Obj, Below w.heap.size w (w.alloc x) := fun x => (Below.refl _ _).alloc (Nat.le_refl _) x
  have hB1 := hB (.cells #[.slice q m d] 22)
  have hbox := heap_alloc_new w (.cells #[.slice q m d] 22)
  have hk := containsF_any p q n c m d w.heap.size xs ys (w.alloc (.cells #[.slice q m d] 22)) (h.below hB1 (Nat.le_refl _)) hl (h2.below hB1 (Nat.le_refl _)) hl2 (box_cell hbox 0) (by simp)
  generalize (xs.any fun x => hasI10 ys x) = r at *
  clear h hl h2 hl2 hbox hB
  go_enter Try.func42, Try.ntmps42
  go_wp2_with fail
  refine same_mono hk ?_
  go_wp2
  go_ret
  exact ⟨rfl, hB1⟩

theorem goodF10_is (c : Conf10) : goodF10 c = (!c.vs.isEmpty && rises10 c.vs && rises10 c.ls && !(c.vs.any fun x => hasI10 c.ls x)) := by
  rw [Bool.eq_iff_iff]
  unfold goodF10 hasI10
  simp only [Bool.and_eq_true, Bool.not_eq_true', List.all_eq_true, List.any_eq_false, List.any_eq_true, decide_eq_false_iff_not, decide_eq_true_eq, not_exists, not_and]
  constructor
  · rintro ⟨⟨⟨h1, h2⟩, h3⟩, h4⟩
    exact ⟨⟨⟨h3, h1⟩, h2⟩, fun a ha b hb => h4 a ha b hb⟩
  · rintro ⟨⟨⟨h3, h1⟩, h2⟩, h4⟩
    exact ⟨⟨⟨h1, h2⟩, h3⟩, fun a ha b hb => h4 a ha b hb⟩
set_option maxRecDepth 100000 in
set_option maxHeartbeats 1500000 in
theorem goodConf_any (x : ConfV) (w : World) (h : FitsF w x) : Calls Try.prog 32 #[.agg x.arr] w fun e w' => e = .returned (.bool (goodF10 x.f)) ∧ Below w.heap.size w w' := by
  have HG : Hid (goodF10 x.f = (!x.f.vs.isEmpty && rises10 x.f.vs && rises10 x.f.ls && !(x.f.vs.any fun a => hasI10 x.f.ls a))) := goodF10_is x.f
  have hB1 : Below w.heap.size w (w.alloc (.cells x.arr 24)) := (Below.refl _ _).alloc (Nat.le_refl _) _
  have h1 := h.below hB1
  have k1 := rise_any _ _ _ _ _ h1.u h1.lu
  have k2 := rise_any _ _ _ _ _ h1.v h1.lv
  have k3 := apart_any _ _ _ _ _ _ _ _ _ h1.u h1.lu h1.v h1.lv
  have hn := h.u.len.1
  have HE : Hid (x.f.vs.isEmpty = decide (x.u.n = 0)) := by
    rw [Hid, ← hn]
    cases x.f.vs <;> simp
  have hzz : (w.alloc (.cells x.arr 24)).heap.size = w.heap.size + 1 := by simp
  obtain ⟨⟨p, n, c⟩, ⟨q, m, d⟩, f⟩ := x
  unfold ConfV.arr at *
  dsimp only at *
  generalize rises10 f.vs = r1 at *
  generalize rises10 f.ls = r2 at *
  generalize (f.vs.any fun a => hasI10 f.ls a) = r3 at *
  clear h h1 hn
  by_cases h0 : n = 0
  · have HF : Hid (goodF10 f = false) := by rw [Hid, HG.out, HE.out, decide_eq_true h0]; rfl
    subst h0
    clear HG HE
    go_enter Try.func32, Try.ntmps32
    go_wp2
    go_ret
    rw [HF.out]
    exact ⟨rfl, hB1⟩
  · have HF : Hid (goodF10 f = (r1 && r2 && !r3)) := by rw [Hid, HG.out, HE.out, decide_eq_false h0]; simp
    have hpos : (0 : Int) < (n : Int) := by omega
    clear HG HE
    cases r1 with
    | false =>
      go_enter Try.func32, Try.ntmps32
      go_wp2_with fail
      refine same_mono k1 ?_
      go_wp2
      go_ret
      rw [HF.out]
      exact ⟨rfl, hB1⟩
    | true =>
      cases r2 with
      | false =>
        go_enter Try.func32, Try.ntmps32
        go_wp2_with fail
        refine same_mono k1 ?_
        go_wp2_with fail
        refine same_mono k2 ?_
        go_wp2
        go_ret
        rw [HF.out]
        exact ⟨rfl, hB1⟩
      | true =>
        go_enter Try.func32, Try.ntmps32
        go_wp2_with fail
        refine same_mono k1 ?_
        go_wp2_with fail
        refine same_mono k2 ?_
        go_wp2_with fail
        refine k3.mono ?_
        rintro e w1 ⟨rfl, hb1⟩
        have hB2 := hB1.trans (hb1.mono hB1.size)
        go_wp2
        go_ret
        rw [HF.out]
        exact ⟨by simp, hB2⟩
structure Ris15 (l : List Int) : Prop where
  up : l.Pairwise (· < ·)
  lo : ∀ x ∈ l, 1 ≤ x ∧ x ≤ 9
theorem Ris15.nil : Ris15 [] := ⟨List.Pairwise.nil, fun _ h => by cases h⟩
theorem Ris15.tail {x : Int} {l : List Int} (h : Ris15 (x :: l)) : Ris15 l := ⟨(List.pairwise_cons.1 h.up).2, fun y hy => h.lo y (List.mem_cons_of_mem _ hy)⟩
theorem Ris15.head {x : Int} {l : List Int} (h : Ris15 (x :: l)) : ∀ y ∈ l, x < y := (List.pairwise_cons.1 h.up).1
theorem Ris15.sub {l k : List Int} (h : Ris15 l) (hs : k.Sublist l) : Ris15 k := ⟨h.up.sublist hs, fun x hx => h.lo x (hs.subset hx)⟩
def with15 : List Int → Int → List Int
  | [], n => [n]
  | x :: l, n => if n < x then n :: x :: l else x :: with15 l n
def without15 (l : List Int) (n : Int) : List Int := l.filter fun x => !decide (x = n)
theorem mem_with15 {n y : Int} : ∀ {l : List Int}, y ∈ with15 l n ↔ y = n ∨ y ∈ l
  | [] => by simp [with15]
  | x :: l => by
    unfold with15
    split
    · simp
    · rw [List.mem_cons, mem_with15, List.mem_cons]
      constructor
      · rintro (h | h | h)
        · exact .inr (.inl h)
        · exact .inl h
        · exact .inr (.inr h)
      · rintro (h | h | h)
        · exact .inr (.inl h)
        · exact .inl h
        · exact .inr (.inr h)
theorem mem_without15 {l : List Int} {n y : Int} : y ∈ without15 l n ↔ y ∈ l ∧ y ≠ n := by
  unfold without15
  rw [List.mem_filter]
  simp
theorem len_with15 (n : Int) : ∀ l : List Int, (with15 l n).length = l.length + 1
  | [] => rfl
  | x :: l => by
    unfold with15
    split
    · rfl
    · rw [List.length_cons, len_with15, List.length_cons]
theorem Ris15.withOne {n : Int} (hn : 1 ≤ n ∧ n ≤ 9) : ∀ {l : List Int}, Ris15 l → n ∉ l → Ris15 (with15 l n)
  | [], _, _ => ⟨List.pairwise_singleton _ _, fun x hx => by rw [List.mem_singleton.1 hx]; exact hn⟩
  | x :: l, h, hm => by
    unfold with15
    have hx := h.head
    have hne : n ≠ x := fun e => hm (by rw [e]; exact List.mem_cons_self)
    have hml : n ∉ l := fun h => hm (List.mem_cons_of_mem _ h)
    split
    · rename_i hlt
      refine ⟨List.pairwise_cons.2 ⟨fun y hy => ?_, h.up⟩, fun y hy => ?_⟩
      · rcases List.mem_cons.1 hy with rfl | hy
        · exact hlt
        · exact Int.lt_trans hlt (hx y hy)
      · rcases List.mem_cons.1 hy with rfl | hy
        · exact hn
        · exact h.lo y hy
    · rename_i hlt
      have h2 := Ris15.withOne hn h.tail hml
      refine ⟨List.pairwise_cons.2 ⟨fun y hy => ?_, h2.up⟩, fun y hy => ?_⟩
      · rcases mem_with15.1 hy with rfl | hy
        · omega
        · exact hx y hy
      · rcases List.mem_cons.1 hy with rfl | hy
        · exact h.lo y List.mem_cons_self
        · exact h2.lo y hy
theorem Ris15.without {l : List Int} (h : Ris15 l) (n : Int) : Ris15 (without15 l n) := h.sub List.filter_sublist
theorem without_none15 {l : List Int} {n : Int} (h : n ∉ l) : without15 l n = l := by
  unfold without15
  rw [List.filter_eq_self]
  intro x hx
  simp only [Bool.not_eq_true', decide_eq_false_iff_not]
  rintro rfl
  exact h hx
theorem Ris15.zero {l : List Int} (h : Ris15 l) : without15 l 0 = l := without_none15 fun h0 => by have := (h.lo 0 h0).1; omega
theorem count_without15 (p : Int → Bool) {n : Int} : ∀ {l : List Int}, Ris15 l → n ∈ l → (without15 l n).countP p + (if p n then 1 else 0) = l.countP p
  | [], _, h => by cases h
  | x :: l, h, hm => by
    by_cases e : x = n
    · subst e
      have hnl : x ∉ l := fun h2 => by have := h.head x h2; omega
      have h1 : without15 (x :: l) x = l := by
        unfold without15
        rw [List.filter_cons, if_neg (by simp)]
        exact without_none15 hnl
      rw [h1, List.countP_cons]
    · have hml : n ∈ l := (List.mem_cons.1 hm).resolve_left fun h => e h.symm
      have h1 : without15 (x :: l) n = x :: without15 l n := by
        unfold without15
        rw [List.filter_cons, if_pos (by simp [e])]
      rw [h1, List.countP_cons, List.countP_cons]
      have := count_without15 p h.tail hml
      omega
theorem len_without15 {n : Int} {l : List Int} (h : Ris15 l) (hm : n ∈ l) : (without15 l n).length + 1 = l.length := by
  have := count_without15 (fun _ => true) h hm
  simpa using this
structure Good15 (c : Conf10) : Prop where
  vs : Ris15 c.vs
  ls : Ris15 c.ls
  some : c.vs ≠ []
  apart : ∀ x ∈ c.vs, x ∉ c.ls
def change15 (c : Conf10) (k n : Int) : Conf10 × Nat :=
  if goodF10 c = false ∨ k < 1 ∨ 4 < k ∨ n < 1 ∨ 9 < n then (noF10, 2)
  else if k ≤ 2 ∧ (n ∈ c.vs ∨ n ∈ c.ls) then (noF10, 5)
  else if k = 1 then (⟨with15 c.vs n, without15 c.ls 0⟩, 0)
  else if k = 2 then (⟨without15 c.vs 0, with15 c.ls n⟩, 0)
  else if k = 3 ∧ n ∉ c.ls ∨ k = 4 ∧ n ∉ c.vs ∧ n ∉ c.ls then (noF10, 4)
  else if k = 3 then (⟨with15 c.vs n, without15 c.ls n⟩, 0)
  else if n ∈ c.vs ∧ c.vs.length = 1 then (noF10, 2)
  else (⟨without15 c.vs n, without15 c.ls n⟩, 0)
inductive Step15 (c : Conf10) (k n : Int) : Conf10 → Prop
  | voter : k = 1 → n ∉ c.vs → n ∉ c.ls → Step15 c k n ⟨with15 c.vs n, c.ls⟩
  | learner : k = 2 → n ∉ c.vs → n ∉ c.ls → Step15 c k n ⟨c.vs, with15 c.ls n⟩
  | promote : k = 3 → n ∉ c.vs → n ∈ c.ls → Step15 c k n ⟨with15 c.vs n, without15 c.ls n⟩
  | away : k = 4 → n ∈ c.vs → n ∉ c.ls → c.vs.length ≠ 1 → Step15 c k n ⟨without15 c.vs n, c.ls⟩
  | gone : k = 4 → n ∉ c.vs → n ∈ c.ls → Step15 c k n ⟨c.vs, without15 c.ls n⟩
theorem change_zero15 {c d : Conf10} {k n : Int} (hg : goodF10 c = true → Good15 c) (h : change15 c k n = (d, 0)) : Good15 c ∧ (1 ≤ n ∧ n ≤ 9) ∧ Step15 c k n d := by
  unfold change15 at h
  split at h
  · cases h
  rename_i h0
  have hG : Good15 c := hg (by cases hc : goodF10 c with | true => rfl | false => exact absurd (.inl hc) h0)
  have hn : 1 ≤ n ∧ n ≤ 9 := by
    have h1 : ¬ n < 1 := fun h => h0 (.inr (.inr (.inr (.inl h))))
    have h2 : ¬ 9 < n := fun h => h0 (.inr (.inr (.inr (.inr h))))
    omega
  have hk : ¬ k < 1 ∧ ¬ 4 < k := ⟨fun h => h0 (.inr (.inl h)), fun h => h0 (.inr (.inr (.inl h)))⟩
  refine ⟨hG, hn, ?_⟩
  split at h
  · cases h
  rename_i h1
  split at h
  · rename_i h2
    obtain rfl := (Prod.mk.inj h).1
    rw [hG.ls.zero]
    exact .voter h2 (fun h => h1 ⟨by omega, .inl h⟩) fun h => h1 ⟨by omega, .inr h⟩
  rename_i h2
  split at h
  · rename_i h3
    obtain rfl := (Prod.mk.inj h).1
    rw [hG.vs.zero]
    exact .learner h3 (fun h => h1 ⟨by omega, .inl h⟩) fun h => h1 ⟨by omega, .inr h⟩
  rename_i h3
  split at h
  · cases h
  rename_i h4
  split at h
  · rename_i h5
    obtain rfl := (Prod.mk.inj h).1
    have hl : n ∈ c.ls := Classical.byContradiction fun h => h4 (.inl ⟨h5, h⟩)
    exact .promote h5 (fun h => hG.apart n h hl) hl
  rename_i h5
  split at h
  · cases h
  rename_i h6
  obtain rfl := (Prod.mk.inj h).1
  have h7 : k = 4 := by omega
  by_cases hv : n ∈ c.vs
  · rw [without_none15 (hG.apart n hv)]
    exact .away h7 hv (hG.apart n hv) fun h => h6 ⟨hv, h⟩
  · have hl : n ∈ c.ls := Classical.byContradiction fun h => h4 (.inr ⟨h7, hv, h⟩)
    rw [without_none15 hv]
    exact .gone h7 hv hl
theorem Step15.good {c d : Conf10} {k n : Int} (h : Step15 c k n d) (hG : Good15 c) (hn : 1 ≤ n ∧ n ≤ 9) : Good15 d := by
  cases h with
  | voter h1 h2 h3 =>
    refine ⟨hG.vs.withOne hn h2, hG.ls, fun h => ?_, fun x hx => ?_⟩
    · have := len_with15 n c.vs
      have h9 : with15 c.vs n = [] := h
      rw [h9] at this
      simp at this
    · rcases mem_with15.1 hx with rfl | hx
      · exact h3
      · exact hG.apart x hx
  | learner h1 h2 h3 =>
    refine ⟨hG.vs, hG.ls.withOne hn h3, hG.some, fun x hx h => ?_⟩
    rcases mem_with15.1 h with rfl | h
    · exact h2 hx
    · exact hG.apart x hx h
  | promote h1 h2 h3 =>
    refine ⟨hG.vs.withOne hn h2, hG.ls.without n, fun h => ?_, fun x hx h => ?_⟩
    · have := len_with15 n c.vs
      have h9 : with15 c.vs n = [] := h
      rw [h9] at this
      simp at this
    · obtain ⟨h4, h5⟩ := mem_without15.1 h
      rcases mem_with15.1 hx with rfl | hx
      · exact h5 rfl
      · exact hG.apart x hx h4
  | away h1 h2 h3 h4 =>
    refine ⟨hG.vs.without n, hG.ls, fun h => ?_, fun x hx => hG.apart x (mem_without15.1 hx).1⟩
    have h5 := len_without15 hG.vs h2
    have h9 : without15 c.vs n = [] := h
    rw [h9] at h5
    simp at h5
    exact h4 h5.symm
  | gone h1 h2 h3 => exact ⟨hG.vs, hG.ls.without n, hG.some, fun x hx h => hG.apart x hx (mem_without15.1 h).1⟩
def undo15 (k : Int) : Int := if k = 1 ∨ k = 2 then 4 else 0
theorem ris15_iff (l : List Int) : rises10 l = true ↔ Ris15 l := by
  unfold rises10
  rw [List.all_eq_true]
  constructor
  · intro h
    have hat : ∀ i, (hi : i < l.length) → 1 ≤ l[i] ∧ l[i] ≤ 9 ∧ (i = 0 ∨ l.getD (i - 1) 0 < l[i]) := fun i hi => by
      have h1 := h i (List.mem_range.2 hi)
      simp only [Bool.and_eq_true, Bool.or_eq_true, decide_eq_true_eq] at h1
      have e : l.getD i 0 = l[i] := by rw [List.getD_eq_getElem?_getD, List.getElem?_eq_getElem hi, Option.getD_some]
      rw [e] at h1
      exact ⟨h1.1.1, h1.1.2, h1.2⟩
    have hup : ∀ j i, i < j → (hi : i < l.length) → (hj : j < l.length) → l[i] < l[j] := fun j => by
      induction j with
      | zero => intro i h; omega
      | succ j ih =>
        intro i hij hi hj
        have h2 := (hat (j + 1) hj).2.2.resolve_left (by omega)
        have e : l.getD (j + 1 - 1) 0 = l[j] := by rw [Nat.add_sub_cancel, List.getD_eq_getElem?_getD, List.getElem?_eq_getElem (by omega), Option.getD_some]
        rw [e] at h2
        rcases Nat.lt_or_eq_of_le (Nat.le_of_lt_succ hij) with h3 | h3
        · exact Int.lt_trans (ih i h3 hi (by omega)) h2
        · subst h3; exact h2
    refine ⟨List.pairwise_iff_getElem.2 fun i j hi hj hij => hup j i hij hi hj, fun x hx => ?_⟩
    obtain ⟨i, hi, rfl⟩ := List.mem_iff_getElem.1 hx
    exact ⟨(hat i hi).1, (hat i hi).2.1⟩
  · intro h i hi
    have hi2 := List.mem_range.1 hi
    have e : l.getD i 0 = l[i] := by rw [List.getD_eq_getElem?_getD, List.getElem?_eq_getElem hi2, Option.getD_some]
    obtain ⟨h1, h2⟩ := h.lo l[i] (List.getElem_mem hi2)
    simp only [Bool.and_eq_true, Bool.or_eq_true, decide_eq_true_eq, e]
    refine ⟨⟨h1, h2⟩, ?_⟩
    by_cases h0 : i = 0
    · exact .inl h0
    · refine .inr ?_
      rw [List.getD_eq_getElem?_getD, List.getElem?_eq_getElem (by omega), Option.getD_some]
      exact List.pairwise_iff_getElem.1 h.up (i - 1) i (by omega) hi2 (by omega)
theorem good15_iff (c : Conf10) : goodF10 c = true ↔ Good15 c := by
  unfold goodF10
  simp only [Bool.and_eq_true, Bool.not_eq_true', List.all_eq_true, decide_eq_false_iff_not, List.isEmpty_eq_false_iff, ris15_iff]
  constructor
  · rintro ⟨⟨⟨h1, h2⟩, h3⟩, h4⟩
    exact ⟨h1, h2, h3, fun x hx h => h4 x hx x h rfl⟩
  · rintro ⟨h1, h2, h3, h4⟩
    exact ⟨⟨⟨h1, h2⟩, h3⟩, fun x hx y hy h => h4 x hx (h ▸ hy)⟩
def begin15 (n : Int) : List Int := (List.range (if n < 1 then 1 else if 9 < n then 9 else n.toNat)).map fun (i : Nat) => (i : Int) + 1
theorem begin_len15 (n : Int) : (begin15 n).length = (if n < 1 then 1 else if 9 < n then 9 else n.toNat) := by
  unfold begin15
  rw [List.length_map, List.length_range]
theorem begin_at15 {n : Int} {i : Nat} (hi : i < (begin15 n).length) : (begin15 n)[i] = (i : Int) + 1 := by
  simp only [begin15, List.getElem_map, List.getElem_range]
theorem begin_good15 (n : Int) : Good15 ⟨begin15 n, []⟩ := by
  have hl := begin_len15 n
  have hl9 : 1 ≤ (begin15 n).length ∧ (begin15 n).length ≤ 9 := by
    rw [hl]
    split
    · omega
    · split <;> omega
  refine ⟨⟨List.pairwise_iff_getElem.2 fun i j hi hj hij => ?_, fun x hx => ?_⟩, .nil, fun h => ?_, fun _ _ h => by cases h⟩
  · show (begin15 n)[i] < (begin15 n)[j]
    rw [begin_at15 hi, begin_at15 hj]; omega
  · obtain ⟨i, hi, rfl⟩ := List.mem_iff_getElem.1 hx
    have h1 : i < (begin15 n).length := hi
    show 1 ≤ (begin15 n)[i] ∧ (begin15 n)[i] ≤ 9
    rw [begin_at15 h1]; omega
  · have h9 : begin15 n = [] := h
    rw [h9] at hl9
    simp at hl9
theorem change_good15 {c d : Conf10} {k n : Int} (h : change15 c k n = (d, 0)) : Good15 c ∧ (1 ≤ n ∧ n ≤ 9) ∧ Step15 c k n d := change_zero15 (good15_iff c).1 h
theorem change_err15 (c : Conf10) (k n : Int) : (change15 c k n).2 = 0 ∨ change15 c k n = (noF10, (change15 c k n).2) := by
  unfold change15
  split
  · exact .inr rfl
  split
  · exact .inr rfl
  split
  · exact .inl rfl
  split
  · exact .inl rfl
  split
  · exact .inr rfl
  split
  · exact .inl rfl
  split
  · exact .inr rfl
  · exact .inl rfl
theorem hasI_iff15 {l : List Int} {x : Int} : hasI10 l x = true ↔ x ∈ l := by
  unfold hasI10
  rw [List.any_eq_true]
  constructor
  · rintro ⟨y, hy, h⟩
    rw [of_decide_eq_true h]
    exact hy
  · exact fun h => ⟨x, h, decide_eq_true rfl⟩
def put15 (n : Int) (l : List Int) : List Int × Bool := l.foldl (fun a x => if n < x ∧ a.2 = false then (a.1 ++ [n, x], true) else (a.1 ++ [x], a.2)) ([], false)
end Go.Proofs.Ytkocomfcjklgcaa

namespace Go.Proofs.Ytkocomfcjklgcaa
open Go.RowKit Go.Shelf
set_option maxRecDepth 10000 in
set_option maxHeartbeats 2000000 in
theorem ints10_any (u v : Value) (xs ys : List Int) (w : World) (hx : HasI w u xs) (hy : HasI w v ys) (lx : xs.length ≤ 17592186044416) (ly : ys.length ≤ 17592186044416) :
    Calls Try.prog 17 #[u, v] w fun e w' => e = .returned (.bool (decide (xs = ys))) ∧ Below w.heap.size w w' := by
  obtain ⟨p, c, rfl, hc, _, hcx⟩ := hx
  obtain ⟨q, d, rfl, hd, _, hcy⟩ := hy
  by_cases hl : xs.length = ys.length
  · rcases Nat.eq_zero_or_pos xs.length with h0 | h0
    · obtain rfl : xs = [] := List.eq_nil_of_length_eq_zero h0
      obtain rfl : ys = [] := List.eq_nil_of_length_eq_zero (by simpa using hl.symm)
      go_enter Try.func17, Try.ntmps17
      go_wp2
      go_loop [13] (fun t => t = .int .i64 0) (fun _ => 0)
      case atStart => rfl
      case round =>
        obtain rfl := hrel
        go_wp2
        go_ret
        exact ⟨rfl, Below.refl _ _⟩
    · obtain ⟨b, o, rfl, hbl, hcx⟩ := hcx h0
      obtain ⟨b', o', rfl, hbl', hcy⟩ := hcy (by omega)
      have hl' : ((xs.length : Int) == (ys.length : Int)) = true := by rw [hl]; simp
      go_enter Try.func17, Try.ntmps17
      go_wp2
      go_loopw [13] (fun t wr => ∃ j : Nat, j ≤ xs.length ∧ t = .int .i64 j ∧ Hid (∀ i, i < j → xs.getD i 0 = ys.getD i 0) ∧ Below w.heap.size w wr) (fun t _ => xs.length - (intOf t).toNat)
      case atStart => exact ⟨0, by omega, rfl, fun i hi => by omega, Below.refl _ _⟩
      case round =>
        obtain ⟨j, hj, rfl, hs, hb⟩ := hrel
        by_cases hlt : j < xs.length
        · have c1 : wr.cell? ⟨b, o + j, none⟩ = some (.int .i64 (xs.getD j 0)) := (hb.cell (p := ⟨b, o + j, none⟩) hbl).trans (hcx j hlt)
          have c2 : wr.cell? ⟨b', o' + j, none⟩ = some (.int .i64 (ys.getD j 0)) := (hb.cell (p := ⟨b', o' + j, none⟩) hbl').trans (hcy j (by omega))
          have hj1 : (j : Int) < (xs.length : Int) := by omega
          have hj2 : (j : Int) < (ys.length : Int) := by omega
          by_cases he : xs.getD j 0 = ys.getD j 0
          · have he' : (xs.getD j 0 == ys.getD j 0) = true := beq_iff_eq.2 he
            have hs' : Hid (∀ i, i < j + 1 → xs.getD i 0 = ys.getD i 0) := fun i hi => by
              by_cases e : i = j
              · rw [e]; exact he
              · exact hs.out i (by omega)
            clear hs he hcx hcy
            generalize xs.getD j 0 = x at *
            generalize ys.getD j 0 = y at *
            go_wp2
            go_quiet (fail)
            go_wp2
            go_roundw
            case rel => exact ⟨j + 1, by omega, by simp, hs', below_drewN hb _⟩
            case measure => simp only [intOf]; omega
          · have he' : (xs.getD j 0 == ys.getD j 0) = false := beq_eq_false_iff_ne.2 he
            have hd0 : Hid (decide (xs = ys) = false) := decide_eq_false fun e => he (by rw [e])
            clear hs he hcx hcy
            generalize xs.getD j 0 = x at *
            generalize ys.getD j 0 = y at *
            go_wp2
            go_quiet (fail)
            go_wp2
            go_ret
            exact ⟨by rw [hd0.out]; rfl, below_drewN hb _⟩
        · obtain rfl : j = xs.length := by omega
          have he : Hid (decide (xs = ys) = true) := decide_eq_true (List.ext_getElem hl fun i h1 h2 => by
            have := hs.out i h1
            simpa [List.getD_eq_getElem?_getD, List.getElem?_eq_getElem h1, List.getElem?_eq_getElem h2] using this)
          clear hs hcx hcy
          go_wp2
          go_ret
          exact ⟨by rw [he.out]; rfl, hb⟩
  · have hne : xs ≠ ys := fun e => hl (by rw [e])
    have hd0 : decide (xs = ys) = false := decide_eq_false hne
    have hl' : ((xs.length : Int) == (ys.length : Int)) = false := by
      rw [beq_eq_false_iff_ne]; omega
    clear hcx hcy
    rw [hd0]
    go_enter Try.func17, Try.ntmps17
    go_wp2
    go_ret
    exact ⟨rfl, Below.refl _ _⟩

set_option maxRecDepth 100000 in
set_option maxHeartbeats 1500000 in
theorem rrises_any (p : Option Addr) (n c : Nat) (xs : List Int) (w : World) (h : HasI w (.slice p n c) xs) (hl : xs.length ≤ 17592186044416) :
    Calls Try.prog 31 #[.slice p n c] w fun e w' => e = .returned (.bool (rises10 xs)) ∧ w' = w := by
  obtain ⟨hn, hc, -⟩ := h.len
  have HN : Hid (xs.length = n) := hn
  rw [hn] at hl
  have HX : Hid (HasI w (.slice p n c) xs) := h
  clear hn h
  go_enter Try.func31, Try.ntmps31
  go_wp2
  go_loopw [7] (fun s7 wr => ∃ j : Nat, j ≤ n ∧ s7 = .int .i64 (j : Nat) ∧ wr = w ∧ Hid (∀ i, i < j → okAt10 xs i = true)) (fun s7 _ => n - (intOf s7).toNat)
  case atStart => exact ⟨0, Nat.zero_le _, rfl, rfl, fun i hi => by omega⟩
  case round =>
    obtain ⟨j, hj, rfl, rfl, hok⟩ := hrel
    by_cases hlt : j < n
    · obtain ⟨b, o, hp, hb, hcell⟩ := HX.out.at hlt
      have HO : Hid (okAt10 xs j = true ↔ (1 ≤ xs.getD j 0 ∧ xs.getD j 0 ≤ 9) ∧ (j = 0 ∨ xs.getD (j - 1) 0 < xs.getD j 0)) := okAt10_iff xs j
      have HF : Hid (¬ ((1 ≤ xs.getD j 0 ∧ xs.getD j 0 ≤ 9) ∧ (j = 0 ∨ xs.getD (j - 1) 0 < xs.getD j 0)) → rises10 xs = false) := fun hno => rises10_no (i := j) (by rw [HN.out]; exact hlt) (by
        cases hk : okAt10 xs j with
        | false => rfl
        | true => exact absurd (HO.out.1 hk) hno)
      have HS : Hid (((1 ≤ xs.getD j 0 ∧ xs.getD j 0 ≤ 9) ∧ (j = 0 ∨ xs.getD (j - 1) 0 < xs.getD j 0)) → ∀ i, i < j + 1 → okAt10 xs i = true) := fun hyes i hi => by
        by_cases e : i = j
        · rw [e]; exact HO.out.2 hyes
        · exact hok.out i (by omega)
      clear HO hok
      cases j with
      | zero =>
        subst hp
        rw [Nat.add_zero] at hcell
        generalize xs.getD 0 0 = x at *
        by_cases h1 : x < 1
        · have HR : Hid (rises10 xs = false) := HF.out (by omega)
          go_wp2
          go_ret
          rw [HR.out]
          exact ⟨rfl, rfl⟩
        by_cases h9 : 9 < x
        · have HR : Hid (rises10 xs = false) := HF.out (by omega)
          go_wp2
          go_ret
          rw [HR.out]
          exact ⟨rfl, rfl⟩
        have HR : Hid (∀ i, i < 0 + 1 → okAt10 xs i = true) := HS.out ⟨by omega, .inl rfl⟩
        clear HF HS
        go_wp2
        go_roundw
        case rel => exact ⟨0 + 1, by omega, by go_num, by trivial, HR.out⟩
        case measure => simp only [intOf]; omega
      | succ k =>
        obtain ⟨b', o', hp', hb', hcell'⟩ := HX.out.at (j := k) (by omega)
        rw [hp] at hp'
        simp only [Option.some.injEq, Addr.mk.injEq, and_true] at hp'
        obtain ⟨rfl, rfl⟩ := hp'
        subst hp
        rw [Nat.add_sub_cancel] at HF HS
        generalize xs.getD (k + 1) 0 = x at *
        generalize xs.getD k 0 = y at *
        have e1 : ((k + 1 : Nat) : Int) - 1 = (k : Int) := by omega
        by_cases h1 : x < 1
        · have HR : Hid (rises10 xs = false) := HF.out (by omega)
          go_wp2
          go_ret
          rw [HR.out]
          exact ⟨rfl, rfl⟩
        by_cases h9 : 9 < x
        · have HR : Hid (rises10 xs = false) := HF.out (by omega)
          go_wp2
          go_ret
          rw [HR.out]
          exact ⟨rfl, rfl⟩
        by_cases hxy : x ≤ y
        · have HR : Hid (rises10 xs = false) := HF.out (by omega)
          go_wp2
          go_ret
          rw [HR.out]
          exact ⟨rfl, rfl⟩
        have HR : Hid (∀ i, i < k + 1 + 1 → okAt10 xs i = true) := HS.out ⟨by omega, .inr (by omega)⟩
        clear HF HS
        go_wp2
        go_roundw
        case rel => exact ⟨k + 1 + 1, by omega, by go_num, by trivial, HR.out⟩
        case measure => simp only [intOf]; omega
    · have HT : Hid (rises10 xs = true) := rises10_yes fun i hi => hok.out i (by rw [HN.out] at hi; omega)
      go_wp2
      go_ret
      rw [HT.out]
      exact ⟨rfl, rfl⟩

theorem goodF10_apart {c : Conf10} {i : Nat} (hi : i < c.vs.length) (h : hasI10 c.ls (c.vs.getD i 0) = true) : goodF10 c = false := by
  rw [goodF10_is]
  have : (c.vs.any fun x => hasI10 c.ls x) = true := by
    rw [List.any_eq_true]
    refine ⟨c.vs.getD i 0, ?_, h⟩
    rw [List.getD_eq_getElem?_getD, List.getElem?_eq_getElem hi]
    exact List.getElem_mem _
  rw [this]
  simp
theorem goodF10_all {c : Conf10} (h1 : rises10 c.vs = true) (h2 : rises10 c.ls = true) (h3 : c.vs.length ≠ 0) (h : ∀ i, i < c.vs.length → hasI10 c.ls (c.vs.getD i 0) = false) : goodF10 c = true := by
  rw [goodF10_is, h1, h2]
  have e1 : c.vs.isEmpty = false := by
    cases hv : c.vs with
    | nil => rw [hv] at h3; exact absurd rfl h3
    | cons => rfl
  have e2 : (c.vs.any fun x => hasI10 c.ls x) = false := by
    rw [List.any_eq_false]
    intro a ha
    obtain ⟨i, hi, rfl⟩ := List.getElem_of_mem ha
    have := h i hi
    rw [List.getD_eq_getElem?_getD, List.getElem?_eq_getElem hi] at this
    simpa using this
  rw [e1, e2]
  rfl

set_option maxRecDepth 100000 in
set_option maxHeartbeats 2000000 in
theorem rgoodConf_any (x : ConfV) (w : World) (h : FitsF w x) : Calls Try.prog 20 #[.agg x.arr] w fun e w' => e = .returned (.bool (goodF10 x.f)) ∧ Below w.heap.size w w' := by
  have HG : Hid (goodF10 x.f = (!x.f.vs.isEmpty && rises10 x.f.vs && rises10 x.f.ls && !(x.f.vs.any fun a => hasI10 x.f.ls a))) := goodF10_is x.f
  have hB1 : Below w.heap.size w (w.alloc (.cells x.arr 24)) := (Below.refl _ _).alloc (Nat.le_refl _) _
  have hbox : ConfAt (w.alloc (.cells x.arr 24)) w.heap.size x := heap_alloc_new w _
  have h1 := h.below hB1
  have k1 := rrises_any _ _ _ _ _ h1.u h1.lu
  have k2 := rrises_any _ _ _ _ _ h1.v h1.lv
  have hn := h.u.len.1
  have hm := h.v.len.1
  have HE : Hid (x.f.vs.isEmpty = decide (x.u.n = 0)) := by
    rw [Hid, ← hn]
    cases x.f.vs <;> simp
  have HY : Hid (∀ i, i < x.u.n → hasI10 x.f.ls (x.f.vs.getD i 0) = true → goodF10 x.f = false) := fun i hi h => goodF10_apart (by rw [hn]; exact hi) h
  have HA : Hid (rises10 x.f.vs = true → rises10 x.f.ls = true → x.u.n ≠ 0 → (∀ i, i < x.u.n → hasI10 x.f.ls (x.f.vs.getD i 0) = false) → goodF10 x.f = true) := fun a b c d => goodF10_all a b (by rw [hn]; exact c) fun i hi => d i (by rw [← hn]; exact hi)
  have HU : Hid (HasI (w.alloc (.cells x.arr 24)) (.slice x.u.p x.u.n x.u.c) x.f.vs) := h1.u
  have HV : Hid (HasI (w.alloc (.cells x.arr 24)) (.slice x.v.p x.v.n x.v.c) x.f.ls) := h1.v
  have hln := h.lu
  have hlm := h.lv
  have HM : Hid (x.f.ls.length = x.v.n) := hm
  rw [hn] at hln
  rw [hm] at hlm
  have hU := h1.u.len.2.1
  have hV := h1.v.len.2.1
  obtain ⟨⟨p, n, c⟩, ⟨q, m, d⟩, f⟩ := x
  unfold ConfV.arr at *
  dsimp only at *
  generalize hr1 : rises10 f.vs = r1 at *
  generalize hr2 : rises10 f.ls = r2 at *
  have hbz := hB1.size
  clear h h1 hn hm hr1 hr2
  cases r1 with
  | false =>
    have HF : Hid (goodF10 f = false) := by rw [Hid, HG.out]; simp
    clear HG HE HY HA HU HV
    go_enter Try.func20, Try.ntmps20
    go_wp2_with fail
    refine same_mono k1 ?_
    go_wp2
    go_ret
    rw [HF.out]
    exact ⟨rfl, hB1⟩
  | true =>
    cases r2 with
    | false =>
      have HF : Hid (goodF10 f = false) := by rw [Hid, HG.out]; simp
      clear HG HE HY HA HU HV
      go_enter Try.func20, Try.ntmps20
      go_wp2_with fail
      refine same_mono k1 ?_
      go_wp2_with fail
      refine same_mono k2 ?_
      go_wp2
      go_ret
      rw [HF.out]
      exact ⟨rfl, hB1⟩
    | true =>
      by_cases h0 : n = 0
      · have HF : Hid (goodF10 f = false) := by rw [Hid, HG.out, HE.out, decide_eq_true h0]; rfl
        subst h0
        clear HG HE HY HA HU HV
        go_enter Try.func20, Try.ntmps20
        go_wp2_with fail
        refine same_mono k1 ?_
        go_wp2_with fail
        refine same_mono k2 ?_
        go_wp2
        go_ret
        rw [HF.out]
        exact ⟨rfl, hB1⟩
      · have h00 : ((n : Int) == 0) = false := by simp; omega
        have HA2 : Hid ((∀ i, i < n → hasI10 f.ls (f.vs.getD i 0) = false) → goodF10 f = true) := HA.out rfl rfl h0
        clear HG HE HA
        go_enter Try.func20, Try.ntmps20
        go_wp2_with fail
        refine same_mono k1 ?_
        go_wp2_with fail
        refine same_mono k2 ?_
        go_wp2
        generalize w.alloc (.cells #[.slice p n c, .slice q m d] 24) = W1 at *
        obtain ⟨c0, c1⟩ := hbox.cells
        dsimp only at c0 c1
        have hlt := box_lt hbox
        generalize hbb : w.heap.size = bb at *
        have Hbb : Hid (w.heap.size = bb) := hbb
        clear hbb k1 k2 hbox
        go_loopw [26] (fun s26 wr => ∃ j : Nat, j ≤ n ∧ s26 = .int .i64 (j : Nat) ∧ wr = W1 ∧ Hid (∀ i, i < j → hasI10 f.ls (f.vs.getD i 0) = false)) (fun s26 _ => n - (intOf s26).toNat)
        case atStart => exact ⟨0, Nat.zero_le _, rfl, rfl, fun i hi => by omega⟩
        case round =>
          obtain ⟨j, hj, rfl, rfl, hok⟩ := hrel
          by_cases hjn : j < n
          · obtain ⟨b1, o1, rfl, hb1, hc1⟩ := HU.out.at hjn
            have HJ : Hid (hasI10 f.ls (f.vs.getD j 0) = true → goodF10 f = false) := HY.out j hjn
            have HK : Hid (hasI10 f.ls (f.vs.getD j 0) = false → ∀ i, i < j + 1 → hasI10 f.ls (f.vs.getD i 0) = false) := fun hh i hi => by
              by_cases e : i = j
              · rw [e]; exact hh
              · exact hok.out i (by omega)
            clear hok
            generalize f.vs.getD j 0 = a at *
            go_wp2
            go_loopw [33] (fun s33 wq => ∃ k : Nat, k ≤ m ∧ s33 = .int .i64 (k : Nat) ∧ wq = wr ∧ Hid (∀ i, i < k → a ≠ f.ls.getD i 0)) (fun s33 _ => m - (intOf s33).toNat)
            case atStart => exact ⟨0, Nat.zero_le _, rfl, rfl, fun i hi => by omega⟩
            case round =>
              obtain ⟨k, hk, rfl, rfl, hno⟩ := hrel
              by_cases hkm : k < m
              · obtain ⟨b2, o2, rfl, hb2, hc2⟩ := HV.out.at hkm
                by_cases hab : a = f.ls.getD k 0
                · have HF : Hid (goodF10 f = false) := HJ.out (hasI10_yes (by rw [HM.out]; exact hkm) hab)
                  have he : (a == f.ls.getD k 0) = true := by simpa using hab
                  clear hno hab
                  generalize f.ls.getD k 0 = b at *
                  go_wp2
                  go_ret
                  rw [HF.out]
                  exact ⟨rfl, by rw [Hbb.out]; exact hB1⟩
                · have HS : Hid (∀ i, i < k + 1 → a ≠ f.ls.getD i 0) := fun i hi => by
                    by_cases e : i = k
                    · rw [e]; exact hab
                    · exact hno.out i (by omega)
                  have he : (a == f.ls.getD k 0) = false := by simpa using hab
                  clear hno hab
                  generalize f.ls.getD k 0 = b at *
                  go_wp2
                  go_roundw
                  case rel => exact ⟨k + 1, by omega, by go_num, by trivial, HS.out⟩
                  case measure => simp only [intOf]; omega
              · have HS : Hid (∀ i, i < j + 1 → hasI10 f.ls (f.vs.getD i 0) = false) := HK.out (hasI10_no fun i hi => hno.out i (by rw [HM.out] at hi; omega))
                clear hno HK HJ
                go_wp2
                go_roundw
                case rel => exact ⟨j + 1, by omega, by go_num, by trivial, HS.out⟩
                case measure => simp only [intOf]; omega
          · have HF : Hid (goodF10 f = true) := HA2.out fun i hi => hok.out i (by omega)
            go_wp2
            go_ret
            rw [HF.out]
            exact ⟨rfl, by rw [Hbb.out]; exact hB1⟩

end Go.Proofs.Ytkocomfcjklgcaa
