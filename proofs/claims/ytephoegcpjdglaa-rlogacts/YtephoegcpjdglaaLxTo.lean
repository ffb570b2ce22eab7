import Derived.Test.YtephoegcpjdglaaHRowETo
import Derived.Test.YtephoegcpjdglaaCmB
import Derived.Test.YtephoegcpjdglaaLd
import Derived.Test.YtephoegcpjdglaaCmETo
import Derived.Deep.QuietTactic
import Derived.Test.YtephoegcpjdglaaEnQTo
import Derived.Test.YtephoegcpjdglaaCmR
import Derived.Laws.IdiomCopy
import Derived.AtR
namespace Go.Proofs.Ytephoegcpjdglaa
open Go.RowKit
attribute [local go_sem ↓] ldE_exec ldE_run stE_exec ldC_exec ldC_run stC_exec stC_run oc_int oc_bool oc_string oc_slice oc_pointer
def isNode10 (n : Int) : Bool := decide (1 ≤ n ∧ n ≤ 9)
def okAt10 (l : List Int) (i : Nat) : Bool := decide (1 ≤ l.getD i 0) && decide (l.getD i 0 ≤ 9) && (decide (i = 0) || decide (l.getD (i - 1) 0 < l.getD i 0))
theorem rises10_is (l : List Int) : rises10 l = (List.range l.length).all (okAt10 l) := rfl
theorem rises10_no {l : List Int} {i : Nat} (hi : i < l.length) (h : okAt10 l i = false) : rises10 l = false := by
  cases hr : rises10 l with
  | false => rfl
  | true =>
    rw [rises10_is, List.all_eq_true] at hr
    have := hr i (List.mem_range.2 hi)
    rw [h] at this
    cases this
theorem rises10_yes {l : List Int} (h : ∀ i, i < l.length → okAt10 l i = true) : rises10 l = true := by
  rw [rises10_is, List.all_eq_true]
  exact fun i hi => h i (List.mem_range.1 hi)
theorem okAt10_iff (l : List Int) (i : Nat) : okAt10 l i = true ↔ (1 ≤ l.getD i 0 ∧ l.getD i 0 ≤ 9) ∧ (i = 0 ∨ l.getD (i - 1) 0 < l.getD i 0) := by
  unfold okAt10
  simp only [Bool.and_eq_true, Bool.or_eq_true, decide_eq_true_eq]
def last10 (l : List Int) (j : Nat) : Int := if j = 0 then 0 else l.getD (j - 1) 0
theorem okAt10_last (l : List Int) (j : Nat) : okAt10 l j = (isNode10 (l.getD j 0) && !decide (l.getD j 0 ≤ last10 l j)) := by
  rw [Bool.eq_iff_iff, okAt10_iff]
  unfold isNode10 last10
  simp only [Bool.and_eq_true, decide_eq_true_eq, Bool.not_eq_true', decide_eq_false_iff_not]
  by_cases h : j = 0
  · rw [if_pos h]; omega
  · rw [if_neg h]; omega
set_option maxRecDepth 100000 in
theorem isNode_any (n : Int) (w : World) : Calls Try.prog 94 #[.int .i64 n] w fun e w' => e = .returned (.bool (isNode10 n)) ∧ w' = w := by
  by_cases h0 : 1 ≤ n
  · have HK : Hid (isNode10 n = decide (n ≤ 9)) := by
      show _ = _
      unfold isNode10
      rw [decide_eq_decide]
      omega
    go_enter Try.func94, Try.ntmps94
    go_wp2
    go_ret
    rw [HK.out]
    exact ⟨rfl, rfl⟩
  · have HK : Hid (isNode10 n = false) := by
      show _ = _
      unfold isNode10
      exact decide_eq_false (by omega)
    go_enter Try.func94, Try.ntmps94
    go_wp2
    go_ret
    rw [HK.out]
    exact ⟨rfl, rfl⟩

set_option maxRecDepth 100000 in
set_option maxHeartbeats 1500000 in
theorem rise_any (p : Option Addr) (n c : Nat) (xs : List Int) (w : World) (h : HasI w (.slice p n c) xs) (hl : xs.length ≤ 17592186044416) :
    Calls Try.prog 77 #[.slice p n c] w fun e w' => e = .returned (.bool (rises10 xs)) ∧ w' = w := by
  obtain ⟨hn, hc, -⟩ := h.len
  have HN : Hid (xs.length = n) := hn
  rw [hn] at hl
  have HX : Hid (HasI w (.slice p n c) xs) := h
  clear hn h
  go_enter Try.func77, Try.ntmps77
  go_wp2
  go_loopw [3, 8] (fun s3 s8 wr => ∃ j : Nat, j ≤ n ∧ s8 = .int .i64 (j : Nat) ∧ s3 = .int .i64 (last10 xs j) ∧ wr = w ∧ Hid (∀ i, i < j → okAt10 xs i = true)) (fun _ s8 _ => n - (intOf s8).toNat)
  case atStart => exact ⟨0, Nat.zero_le _, rfl, rfl, rfl, fun i hi => by omega⟩
  case round =>
    obtain ⟨j, hj, rfl, rfl, rfl, hok⟩ := hrel
    by_cases hlt : j < n
    · obtain ⟨b, o, rfl, hb, hcell⟩ := HX.out.at hlt
      have HO : Hid (okAt10 xs j = (isNode10 (xs.getD j 0) && !decide (xs.getD j 0 ≤ last10 xs j))) := okAt10_last xs j
      have HL : Hid (last10 xs (j + 1) = xs.getD j 0) := by rw [Hid, last10, if_neg (by omega)]; rfl
      generalize xs.getD j 0 = x at *
      generalize last10 xs j = y at *
      have hnode := isNode_any x wr
      generalize isNode10 x = bb at *
      cases bb with
      | false =>
        have HF : Hid (rises10 xs = false) := rises10_no (by rw [HN.out]; exact hlt) (by rw [HO.out]; rfl)
        go_wp2_with fail
        refine same_mono hnode ?_
        go_wp2
        go_ret
        rw [HF.out]
        exact ⟨rfl, rfl⟩
      | true =>
        by_cases hxy : x ≤ y
        · have HF : Hid (rises10 xs = false) := rises10_no (by rw [HN.out]; exact hlt) (by rw [HO.out, decide_eq_true hxy]; rfl)
          go_wp2_with fail
          refine same_mono hnode ?_
          go_wp2
          go_ret
          rw [HF.out]
          exact ⟨rfl, rfl⟩
        · have HT : Hid (okAt10 xs j = true) := by rw [Hid, HO.out, decide_eq_false hxy]; rfl
          go_wp2_with fail
          refine same_mono hnode ?_
          go_wp2
          go_roundw
          case rel =>
            refine ⟨j + 1, by omega, by go_num, by rw [HL.out], by trivial, fun i hi => ?_⟩
            by_cases e : i = j
            · rw [e]; exact HT.out
            · exact hok.out i (by omega)
          case measure => simp only [intOf]; omega
    · have HT : Hid (rises10 xs = true) := rises10_yes fun i hi => hok.out i (by rw [HN.out] at hi; omega)
      go_wp2
      go_ret
      rw [HT.out]
      exact ⟨rfl, rfl⟩

def hasI10 (l : List Int) (x : Int) : Bool := l.any fun a => decide (x = a)
theorem hasI10_no {l : List Int} {x : Int} (h : ∀ i, i < l.length → x ≠ l.getD i 0) : hasI10 l x = false := by
  unfold hasI10
  rw [List.any_eq_false]
  intro a ha
  obtain ⟨i, hi, rfl⟩ := List.getElem_of_mem ha
  have := h i hi
  rw [List.getD_eq_getElem?_getD, List.getElem?_eq_getElem hi] at this
  simpa using this
theorem hasI10_yes {l : List Int} {x : Int} {i : Nat} (hi : i < l.length) (h : x = l.getD i 0) : hasI10 l x = true := by
  unfold hasI10
  rw [List.any_eq_true]
  refine ⟨l.getD i 0, ?_, by simpa using h⟩
  rw [List.getD_eq_getElem?_getD, List.getElem?_eq_getElem hi]
  exact List.getElem_mem hi

set_option maxRecDepth 100000 in
set_option maxHeartbeats 1500000 in
theorem indexI_any (p : Option Addr) (n c : Nat) (xs : List Int) (x : Int) (w : World) (h : HasI w (.slice p n c) xs) (hl : xs.length ≤ 17592186044416) :
    Calls Try.prog 99 #[.slice p n c, .int .i64 x] w fun e w' => (∃ i : Int, e = .returned (.int .i64 i) ∧ decide (0 ≤ i) = hasI10 xs x) ∧ w' = w := by
  obtain ⟨hn, hc, -⟩ := h.len
  have HN : Hid (xs.length = n) := hn
  rw [hn] at hl
  have HX : Hid (HasI w (.slice p n c) xs) := h
  clear hn h
  go_enter Try.func99, Try.ntmps99
  go_wp2
  go_loopw [8] (fun s8 wr => ∃ j : Nat, j ≤ n ∧ s8 = .int .i64 (j : Nat) ∧ wr = w ∧ Hid (∀ i, i < j → x ≠ xs.getD i 0)) (fun s8 _ => n - (intOf s8).toNat)
  case atStart => exact ⟨0, Nat.zero_le _, rfl, rfl, fun i hi => by omega⟩
  case round =>
    obtain ⟨j, hj, rfl, rfl, hok⟩ := hrel
    by_cases hlt : j < n
    · obtain ⟨b, o, rfl, hb, hcell⟩ := HX.out.at hlt
      by_cases hxy : x = xs.getD j 0
      · have HF : Hid (hasI10 xs x = true) := hasI10_yes (by rw [HN.out]; exact hlt) hxy
        have he : (x == xs.getD j 0) = true := by simpa using hxy
        generalize xs.getD j 0 = y at *
        clear hxy
        go_wp2
        go_ret
        exact ⟨⟨_, rfl, by rw [HF.out]; simp⟩, rfl⟩
      · have HF : Hid (x ≠ xs.getD j 0) := hxy
        have he : (x == xs.getD j 0) = false := by simpa using hxy
        clear hxy
        have HS : Hid (∀ i, i < j + 1 → x ≠ xs.getD i 0) := fun i hi => by
          by_cases e : i = j
          · rw [e]; exact HF.out
          · exact hok.out i (by omega)
        clear hok HF
        generalize xs.getD j 0 = y at *
        go_wp2
        go_roundw
        case rel => exact ⟨j + 1, by omega, by go_num, by trivial, HS.out⟩
        case measure => simp only [intOf]; omega
    · have HF : Hid (hasI10 xs x = false) := hasI10_no fun i hi => hok.out i (by rw [HN.out] at hi; omega)
      go_wp2
      go_ret
      exact ⟨⟨_, rfl, by rw [HF.out]; rfl⟩, rfl⟩

set_option maxRecDepth 100000 in
set_option maxHeartbeats 1500000 in
theorem containsI_any (p : Option Addr) (n c : Nat) (xs : List Int) (x : Int) (w : World) (h : HasI w (.slice p n c) xs) (hl : xs.length ≤ 17592186044416) :
    Calls Try.prog 97 #[.slice p n c, .int .i64 x] w fun e w' => e = .returned (.bool (hasI10 xs x)) ∧ w' = w := by
  have hk := indexI_any p n c xs x w h hl
  generalize hasI10 xs x = r at *
  clear h hl
  go_enter Try.func97, Try.ntmps97
  go_wp2_with fail
  refine hk.mono ?_
  rintro e w' ⟨⟨i, rfl, hi⟩, rfl⟩
  have HI : Hid (decide (0 ≤ i) = r) := hi
  clear hk hi
  go_wp2
  go_ret
  rw [← HI.out]
  exact ⟨rfl, rfl⟩

set_option maxRecDepth 100000 in
set_option maxHeartbeats 1500000 in
theorem apart1_any (p : Option Addr) (n c b : Nat) (xs : List Int) (x : Int) (w : World) (h : HasI w (.slice p n c) xs) (hl : xs.length ≤ 17592186044416) (hb : w.cell? ⟨b, 0, none⟩ = some (.slice p n c)) (_hlt : b < w.heap.size) :
    Calls Try.prog 96 #[.int .i64 x, .pointer (some ⟨b, 0, none⟩)] w fun e w' => e = .returned (.bool (hasI10 xs x)) ∧ w' = w := by
  have hk := containsI_any p n c xs x w h hl
  generalize hasI10 xs x = r at *
  clear h hl
  go_enter Try.func96, Try.ntmps96
  go_wp2_with fail
  refine same_mono hk ?_
  go_wp2
  go_ret
  exact ⟨rfl, rfl⟩

set_option maxRecDepth 100000 in
set_option maxHeartbeats 1500000 in
theorem indexF_any (p q : Option Addr) (n c m d b : Nat) (xs ys : List Int) (w : World) (h : HasI w (.slice p n c) xs) (hl : xs.length ≤ 17592186044416) (h2 : HasI w (.slice q m d) ys) (hl2 : ys.length ≤ 17592186044416) (hb : w.cell? ⟨b, 0, none⟩ = some (.slice q m d)) (hblt : b < w.heap.size) :
    Calls Try.prog 98 #[.slice p n c, .func (.func 96) #[] #[.pointer (some ⟨b, 0, none⟩)]] w fun e w' => (∃ i : Int, e = .returned (.int .i64 i) ∧ decide (0 ≤ i) = xs.any fun x => hasI10 ys x) ∧ w' = w := by
  obtain ⟨hn, hc, -⟩ := h.len
  have HN : Hid (xs.length = n) := hn
  rw [hn] at hl
  have HX : Hid (HasI w (.slice p n c) xs) := h
  have HC : Hid (∀ x, Calls Try.prog 96 #[.int .i64 x, .pointer (some ⟨b, 0, none⟩)] w fun e w' => e = .returned (.bool (hasI10 ys x)) ∧ w' = w) := fun x => apart1_any q m d b ys x w h2 hl2 hb hblt
  clear hn h h2 hb hl2
  go_enter Try.func98, Try.ntmps98
  go_wp2
  go_loopw [8] (fun s8 wr => ∃ j : Nat, j ≤ n ∧ s8 = .int .i64 (j : Nat) ∧ wr = w ∧ Hid (∀ i, i < j → hasI10 ys (xs.getD i 0) = false)) (fun s8 _ => n - (intOf s8).toNat)
  case atStart => exact ⟨0, Nat.zero_le _, rfl, rfl, fun i hi => by omega⟩
  case round =>
    obtain ⟨j, hj, rfl, rfl, hok⟩ := hrel
    by_cases hlt : j < n
    · obtain ⟨b1, o1, rfl, hb1, hcell⟩ := HX.out.at hlt
      have hcall := HC.out (xs.getD j 0)
      cases hh : hasI10 ys (xs.getD j 0) with
      | true =>
        have HF : Hid ((xs.any fun x => hasI10 ys x) = true) := by
          rw [Hid, List.any_eq_true]
          refine ⟨xs.getD j 0, ?_, hh⟩
          rw [List.getD_eq_getElem?_getD, List.getElem?_eq_getElem (by rw [HN.out]; exact hlt)]
          exact List.getElem_mem _
        rw [hh] at hcall
        clear hh
        generalize xs.getD j 0 = y at *
        go_wp2_with fail
        refine same_mono hcall ?_
        go_wp2
        go_ret
        exact ⟨⟨_, rfl, by rw [HF.out]; simp⟩, rfl⟩
      | false =>
        have HS : Hid (∀ i, i < j + 1 → hasI10 ys (xs.getD i 0) = false) := fun i hi => by
          by_cases e : i = j
          · rw [e]; exact hh
          · exact hok.out i (by omega)
        rw [hh] at hcall
        clear hh hok
        generalize xs.getD j 0 = y at *
        go_wp2_with fail
        refine same_mono hcall ?_
        go_wp2
        go_roundw
        case rel => exact ⟨j + 1, by omega, by go_num, by trivial, HS.out⟩
        case measure => simp only [intOf]; omega
    · have HF : Hid ((xs.any fun x => hasI10 ys x) = false) := by
        rw [Hid, List.any_eq_false]
        intro a ha
        obtain ⟨i, hi, rfl⟩ := List.getElem_of_mem ha
        have := hok.out i (by rw [HN.out] at hi; omega)
        rw [List.getD_eq_getElem?_getD, List.getElem?_eq_getElem hi] at this
        simpa using this
      go_wp2
      go_ret
      exact ⟨⟨_, rfl, by rw [HF.out]; rfl⟩, rfl⟩

set_option maxRecDepth 100000 in
set_option maxHeartbeats 1500000 in
theorem containsF_any (p q : Option Addr) (n c m d b : Nat) (xs ys : List Int) (w : World) (h : HasI w (.slice p n c) xs) (hl : xs.length ≤ 17592186044416) (h2 : HasI w (.slice q m d) ys) (hl2 : ys.length ≤ 17592186044416) (hb : w.cell? ⟨b, 0, none⟩ = some (.slice q m d)) (hblt : b < w.heap.size) :
    Calls Try.prog 95 #[.slice p n c, .func (.func 96) #[] #[.pointer (some ⟨b, 0, none⟩)]] w fun e w' => e = .returned (.bool (xs.any fun x => hasI10 ys x)) ∧ w' = w := by
  have hk := indexF_any p q n c m d b xs ys w h hl h2 hl2 hb hblt
  generalize (xs.any fun x => hasI10 ys x) = r at *
  clear h hl h2 hl2 hb
  go_enter Try.func95, Try.ntmps95
  go_wp2_with fail
  refine hk.mono ?_
  rintro e w' ⟨⟨i, rfl, hi⟩, rfl⟩
  have HI : Hid (decide (0 ≤ i) = r) := hi
  clear hk hi
  go_wp2
  go_ret
  rw [← HI.out]
  exact ⟨rfl, rfl⟩

set_option maxRecDepth 100000 in
set_option maxHeartbeats 1500000 in
theorem apart_any (p q : Option Addr) (n c m d : Nat) (xs ys : List Int) (w : World) (h : HasI w (.slice p n c) xs) (hl : xs.length ≤ 17592186044416) (h2 : HasI w (.slice q m d) ys) (hl2 : ys.length ≤ 17592186044416) :
    Calls Try.prog 78 #[.slice p n c, .slice q m d] w fun e w' => e = .returned (.bool (!(xs.any fun x => hasI10 ys x))) ∧ Below w.heap.size w w' := by
  have hmf : ∀ (fn : Fn) (first cap : Array Value) (w : World), (Instr.makeFunc fn first cap).run Try.prog w = .ok (.func fn first cap) w := fun _ _ _ _ => rfl
  have hB : ∀ x : Obj, Below w.heap.size w (w.alloc x) := fun x => (Below.refl _ _).alloc (Nat.le_refl _) x
  have hB1 := hB (.cells #[.slice q m d] 47)
  have hbox := heap_alloc_new w (.cells #[.slice q m d] 47)
  have hk := containsF_any p q n c m d w.heap.size xs ys (w.alloc (.cells #[.slice q m d] 47)) (h.below hB1 (Nat.le_refl _)) hl (h2.below hB1 (Nat.le_refl _)) hl2 (box_cell hbox 0) (by simp)
  generalize (xs.any fun x => hasI10 ys x) = r at *
  clear h hl h2 hl2 hbox hB
  go_enter Try.func78, Try.ntmps78
  go_wp2_with fail
  refine same_mono hk ?_
  go_wp2
  go_ret
  exact ⟨rfl, hB1⟩

theorem goodF10_is (c : Conf10) : goodF10 c = (!c.vs.isEmpty && rises10 c.vs && rises10 c.ls && !(c.vs.any fun x => hasI10 c.ls x)) := by
  rw [Bool.eq_iff_iff]
  unfold goodF10 hasI10
  simp only [Bool.and_eq_true, Bool.not_eq_true', List.all_eq_true, List.any_eq_false, List.any_eq_true, decide_eq_false_iff_not, decide_eq_true_eq, not_exists, not_and]
  constructor
  · rintro ⟨⟨⟨h1, h2⟩, h3⟩, h4⟩
    exact ⟨⟨⟨h3, h1⟩, h2⟩, fun a ha b hb => h4 a ha b hb⟩
  · rintro ⟨⟨⟨h3, h1⟩, h2⟩, h4⟩
    exact ⟨⟨⟨h1, h2⟩, h3⟩, fun a ha b hb => h4 a ha b hb⟩
set_option maxRecDepth 100000 in
set_option maxHeartbeats 1500000 in
theorem goodConf_any (x : ConfV) (w : World) (h : FitsF w x) : Calls Try.prog 70 #[.agg x.arr] w fun e w' => e = .returned (.bool (goodF10 x.f)) ∧ Below w.heap.size w w' := by
  have HG : Hid (goodF10 x.f = (!x.f.vs.isEmpty && rises10 x.f.vs && rises10 x.f.ls && !(x.f.vs.any fun a => hasI10 x.f.ls a))) := goodF10_is x.f
  have hB1 : Below w.heap.size w (w.alloc (.cells x.arr 49)) := (Below.refl _ _).alloc (Nat.le_refl _) _
  have h1 := h.below hB1
  have k1 := rise_any _ _ _ _ _ h1.u h1.lu
  have k2 := rise_any _ _ _ _ _ h1.v h1.lv
  have k3 := apart_any _ _ _ _ _ _ _ _ _ h1.u h1.lu h1.v h1.lv
  have hn := h.u.len.1
  have HE : Hid (x.f.vs.isEmpty = decide (x.u.n = 0)) := by
    rw [Hid, ← hn]
    cases x.f.vs <;> simp
  have hzz : (w.alloc (.cells x.arr 49)).heap.size = w.heap.size + 1 := by simp
  obtain ⟨⟨p, n, c⟩, ⟨q, m, d⟩, f⟩ := x
  unfold ConfV.arr at *
  dsimp only at *
  generalize rises10 f.vs = r1 at *
  generalize rises10 f.ls = r2 at *
  generalize (f.vs.any fun a => hasI10 f.ls a) = r3 at *
  clear h h1 hn
  by_cases h0 : n = 0
  · have HF : Hid (goodF10 f = false) := by rw [Hid, HG.out, HE.out, decide_eq_true h0]; rfl
    subst h0
    clear HG HE
    go_enter Try.func70, Try.ntmps70
    go_wp2
    go_ret
    rw [HF.out]
    exact ⟨rfl, hB1⟩
  · have HF : Hid (goodF10 f = (r1 && r2 && !r3)) := by rw [Hid, HG.out, HE.out, decide_eq_false h0]; simp
    have hpos : (0 : Int) < (n : Int) := by omega
    clear HG HE
    cases r1 with
    | false =>
      go_enter Try.func70, Try.ntmps70
      go_wp2_with fail
      refine same_mono k1 ?_
      go_wp2
      go_ret
      rw [HF.out]
      exact ⟨rfl, hB1⟩
    | true =>
      cases r2 with
      | false =>
        go_enter Try.func70, Try.ntmps70
        go_wp2_with fail
        refine same_mono k1 ?_
        go_wp2_with fail
        refine same_mono k2 ?_
        go_wp2
        go_ret
        rw [HF.out]
        exact ⟨rfl, hB1⟩
      | true =>
        go_enter Try.func70, Try.ntmps70
        go_wp2_with fail
        refine same_mono k1 ?_
        go_wp2_with fail
        refine same_mono k2 ?_
        go_wp2_with fail
        refine k3.mono ?_
        rintro e w1 ⟨rfl, hb1⟩
        have hB2 := hB1.trans (hb1.mono hB1.size)
        go_wp2
        go_ret
        rw [HF.out]
        exact ⟨by simp, hB2⟩
end Go.Proofs.Ytephoegcpjdglaa

namespace Go.Proofs.Ytephoegcpjdglaa
open Go.RowKit Go.Shelf
attribute [local go_sem ↓] ldE_exec ldE_run stE_exec ldC_exec ldC_run stC_exec stC_run oc_int oc_bool oc_string oc_slice oc_pointer
set_option maxRecDepth 100000 in
set_option maxHeartbeats 1500000 in
theorem alikeI_any (p q : Option Addr) (n c m d : Nat) (xs ys : List Int) (w : World) (hx : HasI w (.slice p n c) xs) (hy : HasI w (.slice q m d) ys) (lx : xs.length ≤ 140737488351232) (_ly : ys.length ≤ 140737488351232) :
    Calls Try.prog 75 #[.slice p n c, .slice q m d] w fun e w' => e = .returned (.bool (decide (xs = ys))) ∧ w' = w := by
  have n1 := hx.len.1
  have n2 := hy.len.1
  by_cases hnm : n = m
  · have HN : Hid (xs.length = n) := n1
    have HM : Hid (ys.length = n) := by rw [Hid, n2, hnm]
    have HX : Hid (HasI w (.slice p n c) xs) := hx
    have HY : Hid (HasI w (.slice q n d) ys) := by rw [Hid, hnm]; exact hy
    rw [n1] at lx
    rw [← hnm]
    clear hx hy n1 n2 hnm
    go_enter Try.func75, Try.ntmps75
    go_wp2
    go_loopw [14] (fun s14 wr => ∃ j : Nat, j ≤ n ∧ s14 = .int .i64 (j : Nat) ∧ wr = w ∧ Hid (∀ i, i < j → xs.getD i 0 = ys.getD i 0)) (fun s14 _ => n - (intOf s14).toNat)
    case atStart => exact ⟨0, Nat.zero_le _, rfl, rfl, fun i hi => by omega⟩
    case round =>
      obtain ⟨j, hj, rfl, rfl, hok⟩ := hrel
      by_cases hlt : j < n
      · obtain ⟨b1, o1, rfl, hb1, hc1⟩ := HX.out.at hlt
        obtain ⟨b2, o2, rfl, hb2, hc2⟩ := HY.out.at hlt
        by_cases he : xs.getD j 0 = ys.getD j 0
        · have HS : Hid (∀ i, i < j + 1 → xs.getD i 0 = ys.getD i 0) := fun i hi => by
            by_cases e : i = j
            · rw [e]; exact he
            · exact hok.out i (by omega)
          have he' : (xs.getD j 0 != ys.getD j 0) = false := by simpa using he
          clear hok he
          generalize xs.getD j 0 = a at *
          generalize ys.getD j 0 = b at *
          go_wp2
          go_roundw
          case rel => exact ⟨j + 1, by omega, by go_num, by trivial, HS.out⟩
          case measure => simp only [intOf]; omega
        · have hd0 : Hid (decide (xs = ys) = false) := decide_eq_false fun e => he (by rw [e])
          have he' : (xs.getD j 0 != ys.getD j 0) = true := by simpa using he
          clear hok he
          generalize xs.getD j 0 = a at *
          generalize ys.getD j 0 = b at *
          go_wp2
          go_ret
          rw [hd0.out]
          exact ⟨rfl, rfl⟩
      · have hd0 : Hid (decide (xs = ys) = true) := decide_eq_true (List.ext_getElem (by rw [HN.out, HM.out]) fun i h1 h2 => by
          have := hok.out i (by rw [HN.out] at h1; omega)
          simpa [List.getD_eq_getElem?_getD, List.getElem?_eq_getElem h1, List.getElem?_eq_getElem h2] using this)
        go_wp2
        go_ret
        rw [hd0.out]
        exact ⟨rfl, rfl⟩
  · have hd0 : Hid (decide (xs = ys) = false) := decide_eq_false fun e => hnm (by rw [← n1, ← n2, e])
    have hne : ((n : Int) != (m : Int)) = true := by simp; omega
    clear hx hy n1 n2
    go_enter Try.func75, Try.ntmps75
    go_wp2
    go_ret
    rw [hd0.out]
    exact ⟨rfl, rfl⟩

set_option maxRecDepth 10000 in
set_option maxHeartbeats 2000000 in
theorem ints10_any (u v : Value) (xs ys : List Int) (w : World) (hx : HasI w u xs) (hy : HasI w v ys) (lx : xs.length ≤ 17592186044416) (ly : ys.length ≤ 17592186044416) :
    Calls Try.prog 66 #[u, v] w fun e w' => e = .returned (.bool (decide (xs = ys))) ∧ Below w.heap.size w w' := by
  obtain ⟨p, c, rfl, hc, _, hcx⟩ := hx
  obtain ⟨q, d, rfl, hd, _, hcy⟩ := hy
  by_cases hl : xs.length = ys.length
  · rcases Nat.eq_zero_or_pos xs.length with h0 | h0
    · obtain rfl : xs = [] := List.eq_nil_of_length_eq_zero h0
      obtain rfl : ys = [] := List.eq_nil_of_length_eq_zero (by simpa using hl.symm)
      go_enter Try.func66, Try.ntmps66
      go_wp2
      go_loop [13] (fun t => t = .int .i64 0) (fun _ => 0)
      case atStart => rfl
      case round =>
        obtain rfl := hrel
        go_wp2
        go_ret
        exact ⟨rfl, Below.refl _ _⟩
    · obtain ⟨b, o, rfl, hbl, hcx⟩ := hcx h0
      obtain ⟨b', o', rfl, hbl', hcy⟩ := hcy (by omega)
      have hl' : ((xs.length : Int) == (ys.length : Int)) = true := by rw [hl]; simp
      go_enter Try.func66, Try.ntmps66
      go_wp2
      go_loopw [13] (fun t wr => ∃ j : Nat, j ≤ xs.length ∧ t = .int .i64 j ∧ Hid (∀ i, i < j → xs.getD i 0 = ys.getD i 0) ∧ Below w.heap.size w wr) (fun t _ => xs.length - (intOf t).toNat)
      case atStart => exact ⟨0, by omega, rfl, fun i hi => by omega, Below.refl _ _⟩
      case round =>
        obtain ⟨j, hj, rfl, hs, hb⟩ := hrel
        by_cases hlt : j < xs.length
        · have c1 : wr.cell? ⟨b, o + j, none⟩ = some (.int .i64 (xs.getD j 0)) := (hb.cell (p := ⟨b, o + j, none⟩) hbl).trans (hcx j hlt)
          have c2 : wr.cell? ⟨b', o' + j, none⟩ = some (.int .i64 (ys.getD j 0)) := (hb.cell (p := ⟨b', o' + j, none⟩) hbl').trans (hcy j (by omega))
          have hj1 : (j : Int) < (xs.length : Int) := by omega
          have hj2 : (j : Int) < (ys.length : Int) := by omega
          by_cases he : xs.getD j 0 = ys.getD j 0
          · have he' : (xs.getD j 0 == ys.getD j 0) = true := beq_iff_eq.2 he
            have hs' : Hid (∀ i, i < j + 1 → xs.getD i 0 = ys.getD i 0) := fun i hi => by
              by_cases e : i = j
              · rw [e]; exact he
              · exact hs.out i (by omega)
            clear hs he hcx hcy
            generalize xs.getD j 0 = x at *
            generalize ys.getD j 0 = y at *
            go_wp2
            go_quiet (fail)
            go_wp2
            go_roundw
            case rel => exact ⟨j + 1, by omega, by simp, hs', below_drewN hb _⟩
            case measure => simp only [intOf]; omega
          · have he' : (xs.getD j 0 == ys.getD j 0) = false := beq_eq_false_iff_ne.2 he
            have hd0 : Hid (decide (xs = ys) = false) := decide_eq_false fun e => he (by rw [e])
            clear hs he hcx hcy
            generalize xs.getD j 0 = x at *
            generalize ys.getD j 0 = y at *
            go_wp2
            go_quiet (fail)
            go_wp2
            go_ret
            exact ⟨by rw [hd0.out]; rfl, below_drewN hb _⟩
        · obtain rfl : j = xs.length := by omega
          have he : Hid (decide (xs = ys) = true) := decide_eq_true (List.ext_getElem hl fun i h1 h2 => by
            have := hs.out i h1
            simpa [List.getD_eq_getElem?_getD, List.getElem?_eq_getElem h1, List.getElem?_eq_getElem h2] using this)
          clear hs hcx hcy
          go_wp2
          go_ret
          exact ⟨by rw [he.out]; rfl, hb⟩
  · have hne : xs ≠ ys := fun e => hl (by rw [e])
    have hd0 : decide (xs = ys) = false := decide_eq_false hne
    have hl' : ((xs.length : Int) == (ys.length : Int)) = false := by
      rw [beq_eq_false_iff_ne]; omega
    clear hcx hcy
    rw [hd0]
    go_enter Try.func66, Try.ntmps66
    go_wp2
    go_ret
    exact ⟨rfl, Below.refl _ _⟩

set_option maxRecDepth 100000 in
set_option maxHeartbeats 1500000 in
theorem sameConf_any (x y : ConfV) (w : World) (hx : FitsF w x) (hy : FitsF w y) : Calls Try.prog 68 #[.agg x.arr, .agg y.arr] w fun e w' => e = .returned (.bool (sameF10 x.f y.f)) ∧ Below w.heap.size w w' := by
  have hb1 : Below w.heap.size w (w.alloc (.cells x.arr 49)) := (Below.refl _ _).alloc (Nat.le_refl _) _
  have hbx : ConfAt (w.alloc (.cells x.arr 49)) w.heap.size x := heap_alloc_new w _
  have hz1 : (w.alloc (.cells x.arr 49)).heap.size = w.heap.size + 1 := by simp
  have hb2 := (Below.refl _ (w.alloc (.cells x.arr 49))).alloc (Nat.le_refl _) (.cells y.arr 49)
  have hby : ConfAt ((w.alloc (.cells x.arr 49)).alloc (.cells y.arr 49)) (w.heap.size + 1) y := by rw [← hz1]; exact heap_alloc_new _ _
  have hbx2 : ConfAt _ w.heap.size x := box_below hbx hb2
  have hB := hb1.trans (hb2.mono hb1.size)
  have k := fun W (h : Below w.heap.size w W) => alikeI_any x.u.p y.u.p x.u.n x.u.c y.u.n y.u.c x.f.vs y.f.vs W (hx.u.below h (Nat.le_refl _)) (hy.u.below h (Nat.le_refl _)) (by have := hx.lu; omega) (by have := hy.lu; omega)
  have l := fun W (h : Below w.heap.size w W) => alikeI_any x.v.p y.v.p x.v.n x.v.c y.v.n y.v.c x.f.ls y.f.ls W (hx.v.below h (Nat.le_refl _)) (hy.v.below h (Nat.le_refl _)) (by have := hx.lv; omega) (by have := hy.lv; omega)
  have HS : Hid (sameF10 x.f y.f = (decide (x.f.vs = y.f.vs) && decide (x.f.ls = y.f.ls))) := rfl
  generalize decide (x.f.vs = y.f.vs) = r1 at *
  generalize decide (x.f.ls = y.f.ls) = r2 at *
  have k1 := k _ hB
  have L : Hid _ := l
  generalize sameF10 x.f y.f = r at *
  obtain ⟨⟨p, n, c⟩, ⟨q, m, d⟩, f⟩ := x
  obtain ⟨⟨p', n', c'⟩, ⟨q', m', d'⟩, f'⟩ := y
  unfold ConfV.arr at *
  dsimp only at *
  clear hx hy k l hb1 hb2 hbx
  cases r1 with
  | false =>
    go_enter Try.func68, Try.ntmps68
    go_wp2_with fail
    refine same_mono k1 ?_
    
    go_wp2
    go_ret
    rw [HS.out]
    exact ⟨rfl, hB⟩
  | true =>
    go_enter Try.func68, Try.ntmps68
    go_wp2_with fail
    refine same_mono k1 ?_
    have k2 := L.out _ hB
    clear k1 hbx2 hby
    go_wp2_with fail
    refine same_mono k2 ?_
    go_wp2
    go_ret
    rw [HS.out]
    exact ⟨by simp, hB⟩

set_option maxRecDepth 100000 in
set_option maxHeartbeats 1500000 in
theorem rsameConf_any (x y : ConfV) (w : World) (hx : FitsF w x) (hy : FitsF w y) : Calls Try.prog 50 #[.agg x.arr, .agg y.arr] w fun e w' => e = .returned (.bool (sameF10 x.f y.f)) ∧ Below w.heap.size w w' := by
  have hb1 : Below w.heap.size w (w.alloc (.cells x.arr 49)) := (Below.refl _ _).alloc (Nat.le_refl _) _
  have hbx : ConfAt (w.alloc (.cells x.arr 49)) w.heap.size x := heap_alloc_new w _
  have hz1 : (w.alloc (.cells x.arr 49)).heap.size = w.heap.size + 1 := by simp
  have hb2 := (Below.refl _ (w.alloc (.cells x.arr 49))).alloc (Nat.le_refl _) (.cells y.arr 49)
  have hby : ConfAt ((w.alloc (.cells x.arr 49)).alloc (.cells y.arr 49)) (w.heap.size + 1) y := by rw [← hz1]; exact heap_alloc_new _ _
  have hbx2 : ConfAt _ w.heap.size x := box_below hbx hb2
  have hB := hb1.trans (hb2.mono hb1.size)
  have k := fun W (h : Below w.heap.size w W) => ints10_any (.slice x.u.p x.u.n x.u.c) (.slice y.u.p y.u.n y.u.c) x.f.vs y.f.vs W (hx.u.below h (Nat.le_refl _)) (hy.u.below h (Nat.le_refl _)) (by have := hx.lu; omega) (by have := hy.lu; omega)
  have l := fun W (h : Below w.heap.size w W) => ints10_any (.slice x.v.p x.v.n x.v.c) (.slice y.v.p y.v.n y.v.c) x.f.ls y.f.ls W (hx.v.below h (Nat.le_refl _)) (hy.v.below h (Nat.le_refl _)) (by have := hx.lv; omega) (by have := hy.lv; omega)
  have HS : Hid (sameF10 x.f y.f = (decide (x.f.vs = y.f.vs) && decide (x.f.ls = y.f.ls))) := rfl
  generalize decide (x.f.vs = y.f.vs) = r1 at *
  generalize decide (x.f.ls = y.f.ls) = r2 at *
  have k1 := k _ hB
  have L : Hid _ := l
  generalize sameF10 x.f y.f = r at *
  obtain ⟨⟨p, n, c⟩, ⟨q, m, d⟩, f⟩ := x
  obtain ⟨⟨p', n', c'⟩, ⟨q', m', d'⟩, f'⟩ := y
  unfold ConfV.arr at *
  dsimp only at *
  clear hx hy k l hb1 hb2 hbx
  cases r1 with
  | false =>
    go_enter Try.func50, Try.ntmps50
    go_wp2_with fail
    refine k1.mono ?_
    rintro e w1 ⟨rfl, hb3⟩
    go_wp2
    go_ret
    rw [HS.out]
    exact ⟨rfl, hB.trans (hb3.mono hB.size)⟩
  | true =>
    go_enter Try.func50, Try.ntmps50
    go_wp2_with fail
    refine k1.mono ?_
    rintro e w1 ⟨rfl, hb3⟩
    have hB3 := hB.trans (hb3.mono hB.size)
    have k2 := L.out w1 hB3
    have e1 : ConfAt w1 w.heap.size ⟨⟨p, n, c⟩, ⟨q, m, d⟩, f⟩ := box_below hbx2 hb3
    have e2 : ConfAt w1 (w.heap.size + 1) ⟨⟨p', n', c'⟩, ⟨q', m', d'⟩, f'⟩ := box_below hby hb3
    obtain ⟨c0, c1⟩ := e1.cells
    obtain ⟨d0, d1⟩ := e2.cells
    dsimp only at c0 c1 d0 d1
    have hl1 := box_lt e1
    have hl2 := box_lt e2
    clear k1 hb3 hbx2 hby
    go_wp2_with fail
    refine k2.mono ?_
    rintro e w2 ⟨rfl, hb4⟩
    go_wp2
    go_ret
    rw [HS.out]
    exact ⟨by simp, hB3.trans (hb4.mono hB3.size)⟩

theorem keepE {w1 wA wB : World} {b : Nat} {xb3 xb4 xb5 xb6 xb7 xb8 xb9 xb10 xb11 xb12 : Value} (hlb : b < w1.heap.size) (h : wA.cell? ⟨b, 3, none⟩ = some xb3 ∧ wA.cell? ⟨b, 4, none⟩ = some xb4 ∧ wA.cell? ⟨b, 5, none⟩ = some xb5 ∧ wA.cell? ⟨b, 6, none⟩ = some xb6 ∧ wA.cell? ⟨b, 7, none⟩ = some xb7 ∧ wA.cell? ⟨b, 8, none⟩ = some xb8 ∧ wA.cell? ⟨b, 9, none⟩ = some xb9 ∧ wA.cell? ⟨b, 10, none⟩ = some xb10 ∧ wA.cell? ⟨b, 11, none⟩ = some xb11 ∧ wA.cell? ⟨b, 12, none⟩ = some xb12 ∧ Below w1.heap.size w1 wA) (hb : Below wA.heap.size wA wB) :
    wB.cell? ⟨b, 3, none⟩ = some xb3 ∧ wB.cell? ⟨b, 4, none⟩ = some xb4 ∧ wB.cell? ⟨b, 5, none⟩ = some xb5 ∧ wB.cell? ⟨b, 6, none⟩ = some xb6 ∧ wB.cell? ⟨b, 7, none⟩ = some xb7 ∧ wB.cell? ⟨b, 8, none⟩ = some xb8 ∧ wB.cell? ⟨b, 9, none⟩ = some xb9 ∧ wB.cell? ⟨b, 10, none⟩ = some xb10 ∧ wB.cell? ⟨b, 11, none⟩ = some xb11 ∧ wB.cell? ⟨b, 12, none⟩ = some xb12 ∧ Below w1.heap.size w1 wB := by
  obtain ⟨h0, h1, h2, h3, h4, h5, h6, h7, h8, h9, hz⟩ := h
  have hs := hz.size
  exact ⟨(hb.cell (p := ⟨b, 3, none⟩) (by exact Nat.lt_of_lt_of_le hlb hs)).trans h0, (hb.cell (p := ⟨b, 4, none⟩) (by exact Nat.lt_of_lt_of_le hlb hs)).trans h1, (hb.cell (p := ⟨b, 5, none⟩) (by exact Nat.lt_of_lt_of_le hlb hs)).trans h2, (hb.cell (p := ⟨b, 6, none⟩) (by exact Nat.lt_of_lt_of_le hlb hs)).trans h3, (hb.cell (p := ⟨b, 7, none⟩) (by exact Nat.lt_of_lt_of_le hlb hs)).trans h4, (hb.cell (p := ⟨b, 8, none⟩) (by exact Nat.lt_of_lt_of_le hlb hs)).trans h5, (hb.cell (p := ⟨b, 9, none⟩) (by exact Nat.lt_of_lt_of_le hlb hs)).trans h6, (hb.cell (p := ⟨b, 10, none⟩) (by exact Nat.lt_of_lt_of_le hlb hs)).trans h7, (hb.cell (p := ⟨b, 11, none⟩) (by exact Nat.lt_of_lt_of_le hlb hs)).trans h8, (hb.cell (p := ⟨b, 12, none⟩) (by exact Nat.lt_of_lt_of_le hlb hs)).trans h9, hz.trans (hb.mono hs)⟩
theorem keepE0 {w1 : World} {b : Nat} {xb3 xb4 xb5 xb6 xb7 xb8 xb9 xb10 xb11 xb12 : Value} (h0 : w1.cell? ⟨b, 3, none⟩ = some xb3) (h1 : w1.cell? ⟨b, 4, none⟩ = some xb4) (h2 : w1.cell? ⟨b, 5, none⟩ = some xb5) (h3 : w1.cell? ⟨b, 6, none⟩ = some xb6) (h4 : w1.cell? ⟨b, 7, none⟩ = some xb7) (h5 : w1.cell? ⟨b, 8, none⟩ = some xb8) (h6 : w1.cell? ⟨b, 9, none⟩ = some xb9) (h7 : w1.cell? ⟨b, 10, none⟩ = some xb10) (h8 : w1.cell? ⟨b, 11, none⟩ = some xb11) (h9 : w1.cell? ⟨b, 12, none⟩ = some xb12) : w1.drew.cell? ⟨b, 3, none⟩ = some xb3 ∧ w1.drew.cell? ⟨b, 4, none⟩ = some xb4 ∧ w1.drew.cell? ⟨b, 5, none⟩ = some xb5 ∧ w1.drew.cell? ⟨b, 6, none⟩ = some xb6 ∧ w1.drew.cell? ⟨b, 7, none⟩ = some xb7 ∧ w1.drew.cell? ⟨b, 8, none⟩ = some xb8 ∧ w1.drew.cell? ⟨b, 9, none⟩ = some xb9 ∧ w1.drew.cell? ⟨b, 10, none⟩ = some xb10 ∧ w1.drew.cell? ⟨b, 11, none⟩ = some xb11 ∧ w1.drew.cell? ⟨b, 12, none⟩ = some xb12 ∧ Below w1.heap.size w1 w1.drew :=
  ⟨h0, h1, h2, h3, h4, h5, h6, h7, h8, h9, ⟨rfl, rfl, rfl, Nat.le_refl _, fun _ _ => rfl⟩⟩
theorem keepEB {w1 wA : World} {b : Nat} {xb3 xb4 xb5 xb6 xb7 xb8 xb9 xb10 xb11 xb12 : Value} (h : wA.cell? ⟨b, 3, none⟩ = some xb3 ∧ wA.cell? ⟨b, 4, none⟩ = some xb4 ∧ wA.cell? ⟨b, 5, none⟩ = some xb5 ∧ wA.cell? ⟨b, 6, none⟩ = some xb6 ∧ wA.cell? ⟨b, 7, none⟩ = some xb7 ∧ wA.cell? ⟨b, 8, none⟩ = some xb8 ∧ wA.cell? ⟨b, 9, none⟩ = some xb9 ∧ wA.cell? ⟨b, 10, none⟩ = some xb10 ∧ wA.cell? ⟨b, 11, none⟩ = some xb11 ∧ wA.cell? ⟨b, 12, none⟩ = some xb12 ∧ Below w1.heap.size w1 wA) : Below w1.heap.size w1 wA := h.2.2.2.2.2.2.2.2.2.2

theorem sameF_nil (f : Conf10) : sameF10 f noF10 = emptyF10 f := by
  obtain ⟨v, l⟩ := f
  cases v <;> cases l <;> rfl

set_option maxRecDepth 100000 in
set_option maxHeartbeats 2000000 in
theorem goodE_any (x : EntV) (w : World) (hF : FitsE w x) : Calls Try.prog 62 #[.agg x.arr] w fun e w' => e = .returned (.bool (goodE10 x.e)) ∧ Below w.heap.size w w' := by
  have hb1 : Below w.heap.size w (w.alloc (.cells x.arr 51)) := (Below.refl _ _).alloc (Nat.le_refl _) _
  have hbox : EntAt (w.alloc (.cells x.arr 51)) w.heap.size x := heap_alloc_new w _
  have HG : Hid (goodE10 x.e = (decide (1 ≤ x.i) && decide (1 ≤ x.t) && (if x.k = 1 then emptyF10 x.f.f && same9 x.c zeroC9 else if x.k = 2 then emptyF10 x.f.f && good9 x.c else if x.k = 3 then goodF10 x.f.f && same9 x.c zeroC9 else false))) := rfl
  have ks := fun W (h : Below (w.alloc (.cells x.arr 51)).heap.size (w.alloc (.cells x.arr 51)) W) => sameConf_any x.f noFV W ((hF.f.below hb1).below h) (FitsF.nil W)
  have kc := fun W => good_any x.c W
  have kf := fun W (h : Below (w.alloc (.cells x.arr 51)).heap.size (w.alloc (.cells x.arr 51)) W) => goodConf_any x.f W ((hF.f.below hb1).below h)
  rw [show noFV.f = noF10 from rfl, sameF_nil] at ks
  have he := fun W => eqlC x.c.k x.c.s x.c.q x.c.key x.c.old x.c.val x.c.unt x.c.lim 0 0 0 em9 em9 em9 em9 0 W
  have hg := grdC
  have HZ : Hid (same9 x.c zeroC9 = same9 ⟨x.c.k, x.c.s, x.c.q, x.c.key, x.c.old, x.c.val, x.c.unt, x.c.lim⟩ ⟨0, 0, 0, em9, em9, em9, em9, 0⟩) := rfl
  rw [HZ.out] at HG
  clear HZ
  generalize same9 ⟨x.c.k, x.c.s, x.c.q, x.c.key, x.c.old, x.c.val, x.c.unt, x.c.lim⟩ ⟨0, 0, 0, em9, em9, em9, em9, 0⟩ = rz at *
  generalize emptyF10 x.f.f = re at *
  generalize good9 x.c = rc at *
  generalize goodF10 x.f.f = rf at *
  generalize hr : goodE10 x.e = r at *
  clear hr hF
  obtain ⟨i, t, k, ⟨ck, cs, cq, ckey, cold, cval, cunt, clim⟩, ⟨⟨p, n, c⟩, ⟨q, m, d⟩, f⟩⟩ := x
  unfold EntV.arr at *
  unfold ConfV.arr Cmd9.arr noFV nilS10 at *
  dsimp only at *
  by_cases hi : i < 1
  · have HF : Hid (r = false) := by rw [Hid, HG.out, decide_eq_false (by omega)]; rfl
    clear HG ks kc kf he hg
    go_enter Try.func62, Try.ntmps62
    go_wp2
    go_ret
    rw [HF.out]
    exact ⟨rfl, hb1⟩
  by_cases ht : t < 1
  · have HF : Hid (r = false) := by rw [Hid, HG.out, decide_eq_false (p := 1 ≤ t) (by omega), Bool.and_false]; rfl
    clear HG ks kc kf he hg
    go_enter Try.func62, Try.ntmps62
    go_wp2
    go_ret
    rw [HF.out]
    exact ⟨rfl, hb1⟩
  have HF : Hid (r = (if k = 1 then re && rz else if k = 2 then re && rc else if k = 3 then rf && rz else false)) := by
    rw [Hid, HG.out, decide_eq_true (p := 1 ≤ i) (by omega), decide_eq_true (p := 1 ≤ t) (by omega)]
    rfl
  clear HG
  by_cases h1 : k = 1
  · have HF1 : Hid (r = (re && rz)) := by rw [Hid, HF.out, if_pos h1]
    clear HF kc kf
    subst h1
    go_enter Try.func62, Try.ntmps62
    go_wp2_with fail
    have hbz := hb1.size
    generalize w.alloc (.cells #[.int .i64 i, .int .i64 t, .int .i64 1, .int .i64 ck, .int .i64 cs, .int .i64 cq, .string ckey, .string cold, .string cval, .string cunt, .int .i64 clim, .slice p n c, .slice q m d] 51) = W1 at *
    generalize hbb : w.heap.size = b at *
    have Hbb : Hid (w.heap.size = b) := hbb
    clear hbb
    obtain ⟨c0, c1, c2, c3, c4, c5, c6, c7, c8, c9, c10, c11, c12⟩ := hbox.cells
    dsimp only at c0 c1 c2 c3 c4 c5 c6 c7 c8 c9 c10 c11 c12
    have hlt := box_lt hbox
    have s0 := keepE0 c3 c4 c5 c6 c7 c8 c9 c10 c11 c12
    go_region_held3 (fun w' => w'.cell? ⟨b, 3, none⟩ = some (.int .i64 ck) ∧ w'.cell? ⟨b, 4, none⟩ = some (.int .i64 cs) ∧ w'.cell? ⟨b, 5, none⟩ = some (.int .i64 cq) ∧ w'.cell? ⟨b, 6, none⟩ = some (.string ckey) ∧ w'.cell? ⟨b, 7, none⟩ = some (.string cold) ∧ w'.cell? ⟨b, 8, none⟩ = some (.string cval) ∧ w'.cell? ⟨b, 9, none⟩ = some (.string cunt) ∧ w'.cell? ⟨b, 10, none⟩ = some (.int .i64 clim) ∧ w'.cell? ⟨b, 11, none⟩ = some (.slice p n c) ∧ w'.cell? ⟨b, 12, none⟩ = some (.slice q m d) ∧ Below W1.heap.size W1 w')
      (first | exact s0 | assumption | exact keepE hlt (by assumption) (by assumption))
      (first
        | (go_at_call 68; refine Calls.mono (ks _ (keepEB (by assumption))) ?_; rintro e w2 ⟨rfl, hb2⟩))
    have hW : Below W1.heap.size W1 w2 := keepEB (by assumption)
    have hbox2 : EntAt w2 b ⟨i, t, 1, ⟨ck, cs, cq, ckey, cold, cval, cunt, clim⟩, ⟨⟨p, n, c⟩, ⟨q, m, d⟩, f⟩⟩ := box_below hbox hW
    clear c0 c1 c2 c3 c4 c5 c6 c7 c8 c9 c10 c11 c12 hbox
    obtain ⟨c0, c1, c2, c3, c4, c5, c6, c7, c8, c9, c10, c11, c12⟩ := hbox2.cells
    dsimp only at c0 c1 c2 c3 c4 c5 c6 c7 c8 c9 c10 c11 c12
    have hlt2 := box_lt hbox2
    have hb8 := hb1.trans (hW.mono hbz)
    
    all_goals cases rz <;> cases re
    all_goals
      go_wp2
      go_ret
      rw [HF1.out]
      exact ⟨rfl, by rw [Hbb.out]; exact hb8⟩
  have e1 : (k == 1) = false := by simpa using h1
  by_cases h2 : k = 2
  · have HF1 : Hid (r = (re && rc)) := by rw [Hid, HF.out, if_neg h1, if_pos h2]
    clear HF kf h1 e1
    subst h2
    go_enter Try.func62, Try.ntmps62
    go_wp2_with fail
    have hbz := hb1.size
    generalize w.alloc (.cells #[.int .i64 i, .int .i64 t, .int .i64 2, .int .i64 ck, .int .i64 cs, .int .i64 cq, .string ckey, .string cold, .string cval, .string cunt, .int .i64 clim, .slice p n c, .slice q m d] 51) = W1 at *
    generalize hbb : w.heap.size = b at *
    have Hbb : Hid (w.heap.size = b) := hbb
    clear hbb
    obtain ⟨c0, c1, c2, c3, c4, c5, c6, c7, c8, c9, c10, c11, c12⟩ := hbox.cells
    dsimp only at c0 c1 c2 c3 c4 c5 c6 c7 c8 c9 c10 c11 c12
    have hlt := box_lt hbox
    have s0 := keepE0 c3 c4 c5 c6 c7 c8 c9 c10 c11 c12
    go_region_held3 (fun w' => w'.cell? ⟨b, 3, none⟩ = some (.int .i64 ck) ∧ w'.cell? ⟨b, 4, none⟩ = some (.int .i64 cs) ∧ w'.cell? ⟨b, 5, none⟩ = some (.int .i64 cq) ∧ w'.cell? ⟨b, 6, none⟩ = some (.string ckey) ∧ w'.cell? ⟨b, 7, none⟩ = some (.string cold) ∧ w'.cell? ⟨b, 8, none⟩ = some (.string cval) ∧ w'.cell? ⟨b, 9, none⟩ = some (.string cunt) ∧ w'.cell? ⟨b, 10, none⟩ = some (.int .i64 clim) ∧ w'.cell? ⟨b, 11, none⟩ = some (.slice p n c) ∧ w'.cell? ⟨b, 12, none⟩ = some (.slice q m d) ∧ Below W1.heap.size W1 w')
      (first | exact s0 | assumption | exact keepE hlt (by assumption) (by assumption))
      (first
        | (go_at_call 68; refine Calls.mono (ks _ (keepEB (by assumption))) ?_; rintro e w2 ⟨rfl, hb2⟩))
    have hW : Below W1.heap.size W1 w2 := keepEB (by assumption)
    have hbox2 : EntAt w2 b ⟨i, t, 2, ⟨ck, cs, cq, ckey, cold, cval, cunt, clim⟩, ⟨⟨p, n, c⟩, ⟨q, m, d⟩, f⟩⟩ := box_below hbox hW
    clear c0 c1 c2 c3 c4 c5 c6 c7 c8 c9 c10 c11 c12 hbox
    obtain ⟨c0, c1, c2, c3, c4, c5, c6, c7, c8, c9, c10, c11, c12⟩ := hbox2.cells
    dsimp only at c0 c1 c2 c3 c4 c5 c6 c7 c8 c9 c10 c11 c12
    have hlt2 := box_lt hbox2
    have hb8 := hb1.trans (hW.mono hbz)
    
    all_goals
      go_wp2_with fail
      refine (kc _).mono ?_
      rintro e w3 ⟨rfl, hb3⟩
      have hb9 := hb8.trans (hb3.mono (Nat.le_trans hbz hW.size))
      cases rc <;> cases re <;> (go_wp2; go_ret; rw [HF1.out]; exact ⟨rfl, by rw [Hbb.out]; exact hb9⟩)
  have e2 : (k == 2) = false := by simpa using h2
  by_cases h3 : k = 3
  · have HF1 : Hid (r = (rf && rz)) := by rw [Hid, HF.out, if_neg h1, if_neg h2, if_pos h3]
    clear HF kc h1 e1 h2 e2
    subst h3
    go_enter Try.func62, Try.ntmps62
    go_wp2_with fail
    have hbz := hb1.size
    generalize w.alloc (.cells #[.int .i64 i, .int .i64 t, .int .i64 3, .int .i64 ck, .int .i64 cs, .int .i64 cq, .string ckey, .string cold, .string cval, .string cunt, .int .i64 clim, .slice p n c, .slice q m d] 51) = W1 at *
    generalize hbb : w.heap.size = b at *
    have Hbb : Hid (w.heap.size = b) := hbb
    clear hbb
    obtain ⟨c0, c1, c2, c3, c4, c5, c6, c7, c8, c9, c10, c11, c12⟩ := hbox.cells
    dsimp only at c0 c1 c2 c3 c4 c5 c6 c7 c8 c9 c10 c11 c12
    have hlt := box_lt hbox
    have s0 := keepE0 c3 c4 c5 c6 c7 c8 c9 c10 c11 c12
    go_region_held3 (fun w' => w'.cell? ⟨b, 3, none⟩ = some (.int .i64 ck) ∧ w'.cell? ⟨b, 4, none⟩ = some (.int .i64 cs) ∧ w'.cell? ⟨b, 5, none⟩ = some (.int .i64 cq) ∧ w'.cell? ⟨b, 6, none⟩ = some (.string ckey) ∧ w'.cell? ⟨b, 7, none⟩ = some (.string cold) ∧ w'.cell? ⟨b, 8, none⟩ = some (.string cval) ∧ w'.cell? ⟨b, 9, none⟩ = some (.string cunt) ∧ w'.cell? ⟨b, 10, none⟩ = some (.int .i64 clim) ∧ w'.cell? ⟨b, 11, none⟩ = some (.slice p n c) ∧ w'.cell? ⟨b, 12, none⟩ = some (.slice q m d) ∧ Below W1.heap.size W1 w')
      (first | exact s0 | assumption | exact keepE hlt (by assumption) (by assumption))
      (first
        | (go_at_call 68; refine Calls.mono (ks _ (keepEB (by assumption))) ?_; rintro e w2 ⟨rfl, hb2⟩))
    have hW : Below W1.heap.size W1 w2 := keepEB (by assumption)
    have hbox2 : EntAt w2 b ⟨i, t, 3, ⟨ck, cs, cq, ckey, cold, cval, cunt, clim⟩, ⟨⟨p, n, c⟩, ⟨q, m, d⟩, f⟩⟩ := box_below hbox hW
    clear c0 c1 c2 c3 c4 c5 c6 c7 c8 c9 c10 c11 c12 hbox
    obtain ⟨c0, c1, c2, c3, c4, c5, c6, c7, c8, c9, c10, c11, c12⟩ := hbox2.cells
    dsimp only at c0 c1 c2 c3 c4 c5 c6 c7 c8 c9 c10 c11 c12
    have hlt2 := box_lt hbox2
    have hb8 := hb1.trans (hW.mono hbz)
    
    all_goals
      cases rz with
      | false =>
        go_wp2
        go_ret
        rw [HF1.out]
        exact ⟨by simp, by rw [Hbb.out]; exact hb8⟩
      | true =>
        have kf1 := kf _ hW
        go_wp2_with fail
        refine kf1.mono ?_
        rintro e w3 ⟨rfl, hb3⟩
        have hb9 := hb8.trans (hb3.mono (Nat.le_trans hbz hW.size))
        go_wp2
        go_ret
        rw [HF1.out]
        exact ⟨by simp, by rw [Hbb.out]; exact hb9⟩
  have e3 : (k == 3) = false := by simpa using h3
  have HF1 : Hid (r = false) := by rw [Hid, HF.out, if_neg h1, if_neg h2, if_neg h3]
  clear HF kc kf h1 h2 h3
  go_enter Try.func62, Try.ntmps62
  go_wp2_with fail
  have hbz := hb1.size
  generalize w.alloc (.cells #[.int .i64 i, .int .i64 t, .int .i64 k, .int .i64 ck, .int .i64 cs, .int .i64 cq, .string ckey, .string cold, .string cval, .string cunt, .int .i64 clim, .slice p n c, .slice q m d] 51) = W1 at *
  generalize hbb : w.heap.size = b at *
  have Hbb : Hid (w.heap.size = b) := hbb
  clear hbb
  obtain ⟨c0, c1, c2, c3, c4, c5, c6, c7, c8, c9, c10, c11, c12⟩ := hbox.cells
  dsimp only at c0 c1 c2 c3 c4 c5 c6 c7 c8 c9 c10 c11 c12
  have hlt := box_lt hbox
  have s0 := keepE0 c3 c4 c5 c6 c7 c8 c9 c10 c11 c12
  go_region_held3 (fun w' => w'.cell? ⟨b, 3, none⟩ = some (.int .i64 ck) ∧ w'.cell? ⟨b, 4, none⟩ = some (.int .i64 cs) ∧ w'.cell? ⟨b, 5, none⟩ = some (.int .i64 cq) ∧ w'.cell? ⟨b, 6, none⟩ = some (.string ckey) ∧ w'.cell? ⟨b, 7, none⟩ = some (.string cold) ∧ w'.cell? ⟨b, 8, none⟩ = some (.string cval) ∧ w'.cell? ⟨b, 9, none⟩ = some (.string cunt) ∧ w'.cell? ⟨b, 10, none⟩ = some (.int .i64 clim) ∧ w'.cell? ⟨b, 11, none⟩ = some (.slice p n c) ∧ w'.cell? ⟨b, 12, none⟩ = some (.slice q m d) ∧ Below W1.heap.size W1 w')
    (first | exact s0 | assumption | exact keepE hlt (by assumption) (by assumption))
    (first
      | (go_at_call 68; refine Calls.mono (ks _ (keepEB (by assumption))) ?_; rintro e w2 ⟨rfl, hb2⟩))
  have hW : Below W1.heap.size W1 w2 := keepEB (by assumption)
  have hbox2 : EntAt w2 b ⟨i, t, k, ⟨ck, cs, cq, ckey, cold, cval, cunt, clim⟩, ⟨⟨p, n, c⟩, ⟨q, m, d⟩, f⟩⟩ := box_below hbox hW
  clear c0 c1 c2 c3 c4 c5 c6 c7 c8 c9 c10 c11 c12 hbox
  obtain ⟨c0, c1, c2, c3, c4, c5, c6, c7, c8, c9, c10, c11, c12⟩ := hbox2.cells
  dsimp only at c0 c1 c2 c3 c4 c5 c6 c7 c8 c9 c10 c11 c12
  have hlt2 := box_lt hbox2
  have hb8 := hb1.trans (hW.mono hbz)
  
  all_goals
    go_wp2
    go_ret
    rw [HF1.out]
    exact ⟨rfl, by rw [Hbb.out]; exact hb8⟩
set_option maxRecDepth 100000 in
set_option maxHeartbeats 1500000 in
theorem rrises_any (p : Option Addr) (n c : Nat) (xs : List Int) (w : World) (h : HasI w (.slice p n c) xs) (hl : xs.length ≤ 17592186044416) :
    Calls Try.prog 81 #[.slice p n c] w fun e w' => e = .returned (.bool (rises10 xs)) ∧ w' = w := by
  obtain ⟨hn, hc, -⟩ := h.len
  have HN : Hid (xs.length = n) := hn
  rw [hn] at hl
  have HX : Hid (HasI w (.slice p n c) xs) := h
  clear hn h
  go_enter Try.func81, Try.ntmps81
  go_wp2
  go_loopw [7] (fun s7 wr => ∃ j : Nat, j ≤ n ∧ s7 = .int .i64 (j : Nat) ∧ wr = w ∧ Hid (∀ i, i < j → okAt10 xs i = true)) (fun s7 _ => n - (intOf s7).toNat)
  case atStart => exact ⟨0, Nat.zero_le _, rfl, rfl, fun i hi => by omega⟩
  case round =>
    obtain ⟨j, hj, rfl, rfl, hok⟩ := hrel
    by_cases hlt : j < n
    · obtain ⟨b, o, hp, hb, hcell⟩ := HX.out.at hlt
      have HO : Hid (okAt10 xs j = true ↔ (1 ≤ xs.getD j 0 ∧ xs.getD j 0 ≤ 9) ∧ (j = 0 ∨ xs.getD (j - 1) 0 < xs.getD j 0)) := okAt10_iff xs j
      have HF : Hid (¬ ((1 ≤ xs.getD j 0 ∧ xs.getD j 0 ≤ 9) ∧ (j = 0 ∨ xs.getD (j - 1) 0 < xs.getD j 0)) → rises10 xs = false) := fun hno => rises10_no (i := j) (by rw [HN.out]; exact hlt) (by
        cases hk : okAt10 xs j with
        | false => rfl
        | true => exact absurd (HO.out.1 hk) hno)
      have HS : Hid (((1 ≤ xs.getD j 0 ∧ xs.getD j 0 ≤ 9) ∧ (j = 0 ∨ xs.getD (j - 1) 0 < xs.getD j 0)) → ∀ i, i < j + 1 → okAt10 xs i = true) := fun hyes i hi => by
        by_cases e : i = j
        · rw [e]; exact HO.out.2 hyes
        · exact hok.out i (by omega)
      clear HO hok
      cases j with
      | zero =>
        subst hp
        rw [Nat.add_zero] at hcell
        generalize xs.getD 0 0 = x at *
        by_cases h1 : x < 1
        · have HR : Hid (rises10 xs = false) := HF.out (by omega)
          go_wp2
          go_ret
          rw [HR.out]
          exact ⟨rfl, rfl⟩
        by_cases h9 : 9 < x
        · have HR : Hid (rises10 xs = false) := HF.out (by omega)
          go_wp2
          go_ret
          rw [HR.out]
          exact ⟨rfl, rfl⟩
        have HR : Hid (∀ i, i < 0 + 1 → okAt10 xs i = true) := HS.out ⟨by omega, .inl rfl⟩
        clear HF HS
        go_wp2
        go_roundw
        case rel => exact ⟨0 + 1, by omega, by go_num, by trivial, HR.out⟩
        case measure => simp only [intOf]; omega
      | succ k =>
        obtain ⟨b', o', hp', hb', hcell'⟩ := HX.out.at (j := k) (by omega)
        rw [hp] at hp'
        simp only [Option.some.injEq, Addr.mk.injEq, and_true] at hp'
        obtain ⟨rfl, rfl⟩ := hp'
        subst hp
        rw [Nat.add_sub_cancel] at HF HS
        generalize xs.getD (k + 1) 0 = x at *
        generalize xs.getD k 0 = y at *
        have e1 : ((k + 1 : Nat) : Int) - 1 = (k : Int) := by omega
        by_cases h1 : x < 1
        · have HR : Hid (rises10 xs = false) := HF.out (by omega)
          go_wp2
          go_ret
          rw [HR.out]
          exact ⟨rfl, rfl⟩
        by_cases h9 : 9 < x
        · have HR : Hid (rises10 xs = false) := HF.out (by omega)
          go_wp2
          go_ret
          rw [HR.out]
          exact ⟨rfl, rfl⟩
        by_cases hxy : x ≤ y
        · have HR : Hid (rises10 xs = false) := HF.out (by omega)
          go_wp2
          go_ret
          rw [HR.out]
          exact ⟨rfl, rfl⟩
        have HR : Hid (∀ i, i < k + 1 + 1 → okAt10 xs i = true) := HS.out ⟨by omega, .inr (by omega)⟩
        clear HF HS
        go_wp2
        go_roundw
        case rel => exact ⟨k + 1 + 1, by omega, by go_num, by trivial, HR.out⟩
        case measure => simp only [intOf]; omega
    · have HT : Hid (rises10 xs = true) := rises10_yes fun i hi => hok.out i (by rw [HN.out] at hi; omega)
      go_wp2
      go_ret
      rw [HT.out]
      exact ⟨rfl, rfl⟩

theorem goodF10_apart {c : Conf10} {i : Nat} (hi : i < c.vs.length) (h : hasI10 c.ls (c.vs.getD i 0) = true) : goodF10 c = false := by
  rw [goodF10_is]
  have : (c.vs.any fun x => hasI10 c.ls x) = true := by
    rw [List.any_eq_true]
    refine ⟨c.vs.getD i 0, ?_, h⟩
    rw [List.getD_eq_getElem?_getD, List.getElem?_eq_getElem hi]
    exact List.getElem_mem _
  rw [this]
  simp
theorem goodF10_all {c : Conf10} (h1 : rises10 c.vs = true) (h2 : rises10 c.ls = true) (h3 : c.vs.length ≠ 0) (h : ∀ i, i < c.vs.length → hasI10 c.ls (c.vs.getD i 0) = false) : goodF10 c = true := by
  rw [goodF10_is, h1, h2]
  have e1 : c.vs.isEmpty = false := by
    cases hv : c.vs with
    | nil => rw [hv] at h3; exact absurd rfl h3
    | cons => rfl
  have e2 : (c.vs.any fun x => hasI10 c.ls x) = false := by
    rw [List.any_eq_false]
    intro a ha
    obtain ⟨i, hi, rfl⟩ := List.getElem_of_mem ha
    have := h i hi
    rw [List.getD_eq_getElem?_getD, List.getElem?_eq_getElem hi] at this
    simpa using this
  rw [e1, e2]
  rfl

set_option maxRecDepth 100000 in
set_option maxHeartbeats 2000000 in
theorem rgoodConf_any (x : ConfV) (w : World) (h : FitsF w x) : Calls Try.prog 72 #[.agg x.arr] w fun e w' => e = .returned (.bool (goodF10 x.f)) ∧ Below w.heap.size w w' := by
  have HG : Hid (goodF10 x.f = (!x.f.vs.isEmpty && rises10 x.f.vs && rises10 x.f.ls && !(x.f.vs.any fun a => hasI10 x.f.ls a))) := goodF10_is x.f
  have hB1 : Below w.heap.size w (w.alloc (.cells x.arr 49)) := (Below.refl _ _).alloc (Nat.le_refl _) _
  have hbox : ConfAt (w.alloc (.cells x.arr 49)) w.heap.size x := heap_alloc_new w _
  have h1 := h.below hB1
  have k1 := rrises_any _ _ _ _ _ h1.u h1.lu
  have k2 := rrises_any _ _ _ _ _ h1.v h1.lv
  have hn := h.u.len.1
  have hm := h.v.len.1
  have HE : Hid (x.f.vs.isEmpty = decide (x.u.n = 0)) := by
    rw [Hid, ← hn]
    cases x.f.vs <;> simp
  have HY : Hid (∀ i, i < x.u.n → hasI10 x.f.ls (x.f.vs.getD i 0) = true → goodF10 x.f = false) := fun i hi h => goodF10_apart (by rw [hn]; exact hi) h
  have HA : Hid (rises10 x.f.vs = true → rises10 x.f.ls = true → x.u.n ≠ 0 → (∀ i, i < x.u.n → hasI10 x.f.ls (x.f.vs.getD i 0) = false) → goodF10 x.f = true) := fun a b c d => goodF10_all a b (by rw [hn]; exact c) fun i hi => d i (by rw [← hn]; exact hi)
  have HU : Hid (HasI (w.alloc (.cells x.arr 49)) (.slice x.u.p x.u.n x.u.c) x.f.vs) := h1.u
  have HV : Hid (HasI (w.alloc (.cells x.arr 49)) (.slice x.v.p x.v.n x.v.c) x.f.ls) := h1.v
  have hln := h.lu
  have hlm := h.lv
  have HM : Hid (x.f.ls.length = x.v.n) := hm
  rw [hn] at hln
  rw [hm] at hlm
  have hU := h1.u.len.2.1
  have hV := h1.v.len.2.1
  obtain ⟨⟨p, n, c⟩, ⟨q, m, d⟩, f⟩ := x
  unfold ConfV.arr at *
  dsimp only at *
  generalize hr1 : rises10 f.vs = r1 at *
  generalize hr2 : rises10 f.ls = r2 at *
  have hbz := hB1.size
  clear h h1 hn hm hr1 hr2
  cases r1 with
  | false =>
    have HF : Hid (goodF10 f = false) := by rw [Hid, HG.out]; simp
    clear HG HE HY HA HU HV
    go_enter Try.func72, Try.ntmps72
    go_wp2_with fail
    refine same_mono k1 ?_
    go_wp2
    go_ret
    rw [HF.out]
    exact ⟨rfl, hB1⟩
  | true =>
    cases r2 with
    | false =>
      have HF : Hid (goodF10 f = false) := by rw [Hid, HG.out]; simp
      clear HG HE HY HA HU HV
      go_enter Try.func72, Try.ntmps72
      go_wp2_with fail
      refine same_mono k1 ?_
      go_wp2_with fail
      refine same_mono k2 ?_
      go_wp2
      go_ret
      rw [HF.out]
      exact ⟨rfl, hB1⟩
    | true =>
      by_cases h0 : n = 0
      · have HF : Hid (goodF10 f = false) := by rw [Hid, HG.out, HE.out, decide_eq_true h0]; rfl
        subst h0
        clear HG HE HY HA HU HV
        go_enter Try.func72, Try.ntmps72
        go_wp2_with fail
        refine same_mono k1 ?_
        go_wp2_with fail
        refine same_mono k2 ?_
        go_wp2
        go_ret
        rw [HF.out]
        exact ⟨rfl, hB1⟩
      · have h00 : ((n : Int) == 0) = false := by simp; omega
        have HA2 : Hid ((∀ i, i < n → hasI10 f.ls (f.vs.getD i 0) = false) → goodF10 f = true) := HA.out rfl rfl h0
        clear HG HE HA
        go_enter Try.func72, Try.ntmps72
        go_wp2_with fail
        refine same_mono k1 ?_
        go_wp2_with fail
        refine same_mono k2 ?_
        go_wp2
        generalize w.alloc (.cells #[.slice p n c, .slice q m d] 49) = W1 at *
        obtain ⟨c0, c1⟩ := hbox.cells
        dsimp only at c0 c1
        have hlt := box_lt hbox
        generalize hbb : w.heap.size = bb at *
        have Hbb : Hid (w.heap.size = bb) := hbb
        clear hbb k1 k2 hbox
        go_loopw [26] (fun s26 wr => ∃ j : Nat, j ≤ n ∧ s26 = .int .i64 (j : Nat) ∧ wr = W1 ∧ Hid (∀ i, i < j → hasI10 f.ls (f.vs.getD i 0) = false)) (fun s26 _ => n - (intOf s26).toNat)
        case atStart => exact ⟨0, Nat.zero_le _, rfl, rfl, fun i hi => by omega⟩
        case round =>
          obtain ⟨j, hj, rfl, rfl, hok⟩ := hrel
          by_cases hjn : j < n
          · obtain ⟨b1, o1, rfl, hb1, hc1⟩ := HU.out.at hjn
            have HJ : Hid (hasI10 f.ls (f.vs.getD j 0) = true → goodF10 f = false) := HY.out j hjn
            have HK : Hid (hasI10 f.ls (f.vs.getD j 0) = false → ∀ i, i < j + 1 → hasI10 f.ls (f.vs.getD i 0) = false) := fun hh i hi => by
              by_cases e : i = j
              · rw [e]; exact hh
              · exact hok.out i (by omega)
            clear hok
            generalize f.vs.getD j 0 = a at *
            go_wp2
            go_loopw [33] (fun s33 wq => ∃ k : Nat, k ≤ m ∧ s33 = .int .i64 (k : Nat) ∧ wq = wr ∧ Hid (∀ i, i < k → a ≠ f.ls.getD i 0)) (fun s33 _ => m - (intOf s33).toNat)
            case atStart => exact ⟨0, Nat.zero_le _, rfl, rfl, fun i hi => by omega⟩
            case round =>
              obtain ⟨k, hk, rfl, rfl, hno⟩ := hrel
              by_cases hkm : k < m
              · obtain ⟨b2, o2, rfl, hb2, hc2⟩ := HV.out.at hkm
                by_cases hab : a = f.ls.getD k 0
                · have HF : Hid (goodF10 f = false) := HJ.out (hasI10_yes (by rw [HM.out]; exact hkm) hab)
                  have he : (a == f.ls.getD k 0) = true := by simpa using hab
                  clear hno hab
                  generalize f.ls.getD k 0 = b at *
                  go_wp2
                  go_ret
                  rw [HF.out]
                  exact ⟨rfl, by rw [Hbb.out]; exact hB1⟩
                · have HS : Hid (∀ i, i < k + 1 → a ≠ f.ls.getD i 0) := fun i hi => by
                    by_cases e : i = k
                    · rw [e]; exact hab
                    · exact hno.out i (by omega)
                  have he : (a == f.ls.getD k 0) = false := by simpa using hab
                  clear hno hab
                  generalize f.ls.getD k 0 = b at *
                  go_wp2
                  go_roundw
                  case rel => exact ⟨k + 1, by omega, by go_num, by trivial, HS.out⟩
                  case measure => simp only [intOf]; omega
              · have HS : Hid (∀ i, i < j + 1 → hasI10 f.ls (f.vs.getD i 0) = false) := HK.out (hasI10_no fun i hi => hno.out i (by rw [HM.out] at hi; omega))
                clear hno HK HJ
                go_wp2
                go_roundw
                case rel => exact ⟨j + 1, by omega, by go_num, by trivial, HS.out⟩
                case measure => simp only [intOf]; omega
          · have HF : Hid (goodF10 f = true) := HA2.out fun i hi => hok.out i (by omega)
            go_wp2
            go_ret
            rw [HF.out]
            exact ⟨rfl, by rw [Hbb.out]; exact hB1⟩

set_option maxRecDepth 100000 in
set_option maxHeartbeats 2000000 in
theorem rgoodE_any (x : EntV) (w : World) (hF : FitsE w x) : Calls Try.prog 63 #[.agg x.arr] w fun e w' => e = .returned (.bool (goodE10 x.e)) ∧ Below w.heap.size w w' := by
  have hb1 : Below w.heap.size w (w.alloc (.cells x.arr 51)) := (Below.refl _ _).alloc (Nat.le_refl _) _
  have hbox : EntAt (w.alloc (.cells x.arr 51)) w.heap.size x := heap_alloc_new w _
  have HG : Hid (goodE10 x.e = (decide (1 ≤ x.i) && decide (1 ≤ x.t) && (if x.k = 1 then emptyF10 x.f.f && same9 x.c zeroC9 else if x.k = 2 then emptyF10 x.f.f && good9 x.c else if x.k = 3 then goodF10 x.f.f && same9 x.c zeroC9 else false))) := rfl
  have hn := hF.f.u.len.1
  have hm := hF.f.v.len.1
  have hln := hF.f.lu
  have hlm := hF.f.lv
  rw [hn] at hln
  rw [hm] at hlm
  have HE : Hid (emptyF10 x.f.f = decide ((x.f.u.n : Int) + (x.f.v.n : Int) = 0)) := by
    rw [Hid, ← hn, ← hm]
    unfold emptyF10
    cases x.f.f.vs <;> cases x.f.f.ls <;> simp <;> omega
  have kc := fun W => rgood_any x.c W
  have kf := rgoodConf_any x.f _ (hF.f.below hb1)
  have he := fun W => eqlC x.c.k x.c.s x.c.q x.c.key x.c.old x.c.val x.c.unt x.c.lim 0 0 0 em9 em9 em9 em9 0 W
  have hg := grdC
  have HZ : Hid (same9 x.c zeroC9 = same9 ⟨x.c.k, x.c.s, x.c.q, x.c.key, x.c.old, x.c.val, x.c.unt, x.c.lim⟩ ⟨0, 0, 0, em9, em9, em9, em9, 0⟩) := rfl
  rw [HZ.out] at HG
  clear HZ hn hm
  generalize same9 ⟨x.c.k, x.c.s, x.c.q, x.c.key, x.c.old, x.c.val, x.c.unt, x.c.lim⟩ ⟨0, 0, 0, em9, em9, em9, em9, 0⟩ = rz at *
  generalize hre : emptyF10 x.f.f = re at *
  generalize good9 x.c = rc at *
  generalize goodF10 x.f.f = rf at *
  generalize hr : goodE10 x.e = r at *
  clear hr hF hre
  have hbz := hb1.size
  obtain ⟨i, t, k, ⟨ck, cs, cq, ckey, cold, cval, cunt, clim⟩, ⟨⟨p, n, c⟩, ⟨q, m, d⟩, f⟩⟩ := x
  unfold EntV.arr at *
  unfold ConfV.arr Cmd9.arr at *
  dsimp only at *
  by_cases hi : i < 1
  · have HF : Hid (r = false) := by rw [Hid, HG.out, decide_eq_false (by omega)]; rfl
    clear HG HE kc kf he hg
    go_enter Try.func63, Try.ntmps63
    go_wp2
    go_ret
    rw [HF.out]
    exact ⟨rfl, hb1⟩
  by_cases ht : t < 1
  · have HF : Hid (r = false) := by rw [Hid, HG.out, decide_eq_false (p := 1 ≤ t) (by omega), Bool.and_false]; rfl
    clear HG HE kc kf he hg
    go_enter Try.func63, Try.ntmps63
    go_wp2
    go_ret
    rw [HF.out]
    exact ⟨rfl, hb1⟩
  have HF : Hid (r = (if k = 1 then re && rz else if k = 2 then re && rc else if k = 3 then rf && rz else false)) := by
    rw [Hid, HG.out, decide_eq_true (p := 1 ≤ i) (by omega), decide_eq_true (p := 1 ≤ t) (by omega)]
    rfl
  clear HG
  have HB : (((n : Int) + (m : Int)) == 0) = re := by
    rw [HE.out]
    rfl
  have Hre : Hid (re = true ∨ re = false) := by cases re <;> simp [Hid]
  clear HE
  by_cases h1 : k = 1
  · have HF1 : Hid (r = (re && rz)) := by rw [Hid, HF.out, if_pos h1]
    clear HF kc kf
    subst h1
    cases re <;> cases rz
    all_goals
      go_enter Try.func63, Try.ntmps63
      go_wp2
      go_ret
      rw [HF1.out]
      exact ⟨rfl, hb1⟩
  have e1 : (k == 1) = false := by simpa using h1
  by_cases h2 : k = 2
  · have HF1 : Hid (r = (re && rc)) := by rw [Hid, HF.out, if_neg h1, if_pos h2]
    clear HF kf h1 e1
    subst h2
    cases re with
    | false =>
      go_enter Try.func63, Try.ntmps63
      go_wp2
      go_ret
      rw [HF1.out]
      exact ⟨rfl, hb1⟩
    | true =>
      go_enter Try.func63, Try.ntmps63
      go_wp2_with fail
      refine (kc _).mono ?_
      rintro e w3 ⟨rfl, hb3⟩
      have hb9 := hb1.trans (hb3.mono hbz)
      go_wp2
      go_ret
      rw [HF1.out]
      exact ⟨by simp, hb9⟩
  have e2 : (k == 2) = false := by simpa using h2
  by_cases h3 : k = 3
  · have HF1 : Hid (r = (rf && rz)) := by rw [Hid, HF.out, if_neg h1, if_neg h2, if_pos h3]
    clear HF kc h1 e1 h2 e2
    subst h3
    go_enter Try.func63, Try.ntmps63
    go_wp2_with fail
    generalize w.alloc (.cells #[.int .i64 i, .int .i64 t, .int .i64 3, .int .i64 ck, .int .i64 cs, .int .i64 cq, .string ckey, .string cold, .string cval, .string cunt, .int .i64 clim, .slice p n c, .slice q m d] 51) = W1 at *
    refine kf.mono ?_
    rintro e w3 ⟨rfl, hb3⟩
    have hb9 := hb1.trans (hb3.mono hbz)
    have hbox2 : EntAt w3 w.heap.size ⟨i, t, 3, ⟨ck, cs, cq, ckey, cold, cval, cunt, clim⟩, ⟨⟨p, n, c⟩, ⟨q, m, d⟩, f⟩⟩ := box_below hbox hb3
    obtain ⟨c0, c1, c2, c3, c4, c5, c6, c7, c8, c9, c10, c11, c12⟩ := hbox2.cells
    dsimp only at c0 c1 c2 c3 c4 c5 c6 c7 c8 c9 c10 c11 c12
    have hlt2 := box_lt hbox2
    clear hbox kf
    cases rf <;> cases rz
    all_goals
      go_wp2
      go_ret
      rw [HF1.out]
      exact ⟨rfl, hb9⟩
  have e3 : (k == 3) = false := by simpa using h3
  have HF1 : Hid (r = false) := by rw [Hid, HF.out, if_neg h1, if_neg h2, if_neg h3]
  clear HF kc kf h1 h2 h3
  go_enter Try.func63, Try.ntmps63
  go_wp2
  go_ret
  rw [HF1.out]
  exact ⟨rfl, hb1⟩

set_option maxRecDepth 100000 in
set_option maxHeartbeats 2000000 in
theorem rsameE_any (x y : EntV) (w : World) (hx : FitsF w x.f) (hy : FitsF w y.f) : Calls Try.prog 17 #[.agg x.arr, .agg y.arr] w fun e w' => e = .returned (.bool (sameE10 x.e y.e)) ∧ Below w.heap.size w w' := by
  have hb1 : Below w.heap.size w (w.alloc (.cells x.arr 51)) := (Below.refl _ _).alloc (Nat.le_refl _) _
  have hb2 := (Below.refl _ (w.alloc (.cells x.arr 51))).alloc (Nat.le_refl _) (.cells y.arr 51)
  have hB := hb1.trans (hb2.mono hb1.size)
  have hbz := hB.size
  have ks := rsameConf_any x.f y.f _ ((hx.below hb1).below hb2) ((hy.below hb1).below hb2)
  have HS : Hid (sameE10 x.e y.e = (decide (x.i = y.i) && decide (x.t = y.t) && decide (x.k = y.k) && same9 x.c y.c && sameF10 x.f.f y.f.f)) := rfl
  have he := fun W => eqlC x.c.k x.c.s x.c.q x.c.key x.c.old x.c.val x.c.unt x.c.lim y.c.k y.c.s y.c.q y.c.key y.c.old y.c.val y.c.unt y.c.lim W
  have hg := grdC
  have HZ : Hid (same9 x.c y.c = same9 ⟨x.c.k, x.c.s, x.c.q, x.c.key, x.c.old, x.c.val, x.c.unt, x.c.lim⟩ ⟨y.c.k, y.c.s, y.c.q, y.c.key, y.c.old, y.c.val, y.c.unt, y.c.lim⟩) := rfl
  rw [HZ.out] at HS
  clear HZ
  generalize same9 ⟨x.c.k, x.c.s, x.c.q, x.c.key, x.c.old, x.c.val, x.c.unt, x.c.lim⟩ ⟨y.c.k, y.c.s, y.c.q, y.c.key, y.c.old, y.c.val, y.c.unt, y.c.lim⟩ = rz at *
  generalize sameF10 x.f.f y.f.f = rf at *
  generalize hr : sameE10 x.e y.e = r at *
  clear hr hx hy hb1 hb2
  obtain ⟨i, t, k, ⟨ck, cs, cq, ckey, cold, cval, cunt, clim⟩, ⟨⟨p, n, c⟩, ⟨q, m, d⟩, f⟩⟩ := x
  obtain ⟨i', t', k', ⟨ck', cs', cq', ckey', cold', cval', cunt', clim'⟩, ⟨⟨p', n', c'⟩, ⟨q', m', d'⟩, f'⟩⟩ := y
  unfold EntV.arr at *
  unfold ConfV.arr at *
  dsimp only at *
  by_cases h1 : i = i'
  case neg =>
    have HF : Hid (r = false) := by rw [Hid, HS.out, decide_eq_false h1]; simp
    have e9 : (i == i') = false := by simpa using h1
    clear HS ks he hg
    go_enter Try.func17, Try.ntmps17
    go_wp2
    go_ret
    rw [HF.out]
    exact ⟨rfl, hB⟩
  subst h1
  by_cases h2 : t = t'
  case neg =>
    have HF : Hid (r = false) := by rw [Hid, HS.out, decide_eq_false h2]; simp
    have e9 : (t == t') = false := by simpa using h2
    clear HS ks he hg
    go_enter Try.func17, Try.ntmps17
    go_wp2
    go_ret
    rw [HF.out]
    exact ⟨rfl, hB⟩
  subst h2
  by_cases h3 : k = k'
  case neg =>
    have HF : Hid (r = false) := by rw [Hid, HS.out, decide_eq_false h3]; simp
    have e9 : (k == k') = false := by simpa using h3
    clear HS ks he hg
    go_enter Try.func17, Try.ntmps17
    go_wp2
    go_ret
    rw [HF.out]
    exact ⟨rfl, hB⟩
  subst h3
  have HF : Hid (r = (rz && rf)) := by rw [Hid, HS.out, decide_eq_true rfl, decide_eq_true rfl, decide_eq_true rfl]; rfl
  clear HS
  cases rz with
  | false =>
    clear ks
    go_enter Try.func17, Try.ntmps17
    go_wp2
    go_ret
    rw [HF.out]
    exact ⟨rfl, hB⟩
  | true =>
    go_enter Try.func17, Try.ntmps17
    go_wp2_with fail
    refine ks.mono ?_
    rintro e w3 ⟨rfl, hb3⟩
    have hb9 := hB.trans (hb3.mono hbz)
    go_wp2
    go_ret
    rw [HF.out]
    exact ⟨by simp, hb9⟩
end Go.Proofs.Ytephoegcpjdglaa

namespace Go.Proofs.Ytephoegcpjdglaa
open Go.RowKit
attribute [local go_sem ↓] ldE_exec ldE_run stE_exec ldC_exec ldC_run stC_exec stC_run oc_int oc_bool oc_string oc_slice oc_pointer
def FewF (c : Conf10) : Prop := c.vs.length ≤ 1000 ∧ c.ls.length ≤ 1000
end Go.Proofs.Ytephoegcpjdglaa

namespace Go.Proofs.Ytephoegcpjdglaa
open Go.RowKit Go.Shelf
attribute [local go_sem ↓] ldE_exec ldE_run stE_exec ldC_exec ldC_run stC_exec stC_run oc_int oc_bool oc_string oc_slice oc_pointer
theorem fits_zeroC : Fits9 zeroC9 := ⟨by decide, by decide, by decide, by decide, ⟨by decide, by decide⟩, ⟨by decide, by decide⟩, ⟨by decide, by decide⟩, ⟨by decide, by decide⟩⟩
def weightE (x : Ent10) : Nat := 1 + (x.c.key.size + x.c.old.size + x.c.val.size + x.c.unt.size) / 20 + x.f.vs.length + x.f.ls.length
set_option maxRecDepth 100000 in
set_option maxHeartbeats 2000000 in
theorem weight_any (x : EntV) (w : World) (h : FitsE w x) : Calls Try.prog 18 #[.agg x.arr] w fun e w' => e = .returned (.int .i64 (weightE x.e : Nat)) ∧ Below w.heap.size w w' := by
  have hb1 : Below w.heap.size w (w.alloc (.cells x.arr 51)) := (Below.refl _ _).alloc (Nat.le_refl _) _
  have hbz := hb1.size
  obtain ⟨s1, s2, s3, s4, -⟩ := h.c
  have hn := h.f.u.len.1
  have hm := h.f.v.len.1
  have l1 := h.f.lu
  have l2 := h.f.lv
  obtain ⟨W, HW⟩ : ∃ W : Nat, Hid (weightE x.e = W) := ⟨_, rfl⟩
  have HQ : ∃ q : Nat, ((x.c.key.size : Int) + (x.c.old.size : Int) + (x.c.val.size : Int) + (x.c.unt.size : Int)).tdiv 20 = (q : Int) ∧ q ≤ 1125899906842624 ∧ Hid (W = 1 + q + x.f.u.n + x.f.v.n) := by
    refine ⟨(x.c.key.size + x.c.old.size + x.c.val.size + x.c.unt.size) / 20, ?_, by omega, ?_⟩
    · rw [Int.tdiv_eq_ediv_of_nonneg (by omega)]
      omega
    · rw [Hid, ← HW.out, ← hn, ← hm]
      rfl
  obtain ⟨q, hq, hq2, HE⟩ := HQ
  rw [hn] at l1
  rw [hm] at l2
  rw [HW.out]
  clear HW h hn hm
  have hb2 : ∀ o : Obj, Below w.heap.size w ((w.alloc (.cells x.arr 51)).alloc o) := fun o => hb1.trans (((Below.refl _ _).alloc (Nat.le_refl _) o).mono hbz)
  obtain ⟨i, t, k, ⟨ck, cs, cq, ckey, cold, cval, cunt, clim⟩, ⟨⟨p, n, c⟩, ⟨q', m, d⟩, f⟩⟩ := x
  unfold EntV.arr at *
  dsimp only at *
  go_enter Try.func18, Try.ntmps18
  go_wp2
  go_ret
  refine ⟨ret_int ?_, hb2 _⟩
  rw [HE.out]
  omega
theorem HasE.at {W : World} {s : Sl10} {es : List EntV} (h : HasE W s es) {j : Nat} (hj : j < s.n) : ∃ b o x, s.p = some ⟨b, o, none⟩ ∧ b < W.heap.size ∧ x = es.getD j noEV ∧ x ∈ es ∧ FitsE W x ∧ W.cell? ⟨b, o + j * 13, none⟩ = some (.int .i64 x.i) ∧ W.cell? ⟨b, o + j * 13 + 1, none⟩ = some (.int .i64 x.t) ∧ W.cell? ⟨b, o + j * 13 + 2, none⟩ = some (.int .i64 x.k) ∧ W.cell? ⟨b, o + j * 13 + 3, none⟩ = some (.int .i64 x.c.k) ∧ W.cell? ⟨b, o + j * 13 + 4, none⟩ = some (.int .i64 x.c.s) ∧ W.cell? ⟨b, o + j * 13 + 5, none⟩ = some (.int .i64 x.c.q) ∧ W.cell? ⟨b, o + j * 13 + 6, none⟩ = some (.string x.c.key) ∧ W.cell? ⟨b, o + j * 13 + 7, none⟩ = some (.string x.c.old) ∧ W.cell? ⟨b, o + j * 13 + 8, none⟩ = some (.string x.c.val) ∧ W.cell? ⟨b, o + j * 13 + 9, none⟩ = some (.string x.c.unt) ∧ W.cell? ⟨b, o + j * 13 + 10, none⟩ = some (.int .i64 x.c.lim) ∧ W.cell? ⟨b, o + j * 13 + 11, none⟩ = some (.slice x.f.u.p x.f.u.n x.f.u.c) ∧ W.cell? ⟨b, o + j * 13 + 12, none⟩ = some (.slice x.f.v.p x.f.v.n x.f.v.c) := by
  obtain ⟨b, o, hp, hb, hc⟩ := h.at' (by omega)
  have hjl : j < es.length := by rw [h.n]; exact hj
  have hm : es.getD j noEV ∈ es := by
    rw [List.getD_eq_getElem?_getD, List.getElem?_eq_getElem hjl]
    exact List.getElem_mem hjl
  exact ⟨b, o, es.getD j noEV, hp, hb, rfl, hm, h.all _ hm, hc j hj 0 (by omega), hc j hj 1 (by omega), hc j hj 2 (by omega), hc j hj 3 (by omega), hc j hj 4 (by omega), hc j hj 5 (by omega), hc j hj 6 (by omega), hc j hj 7 (by omega), hc j hj 8 (by omega), hc j hj 9 (by omega), hc j hj 10 (by omega), hc j hj 11 (by omega), hc j hj 12 (by omega)⟩

theorem keepS {w1 wA wB : World} {b : Nat} {xb0 xb1 xb2 xb3 xb4 : Value} (hlb : b < w1.heap.size) (h : wA.cell? ⟨b, 0, none⟩ = some xb0 ∧ wA.cell? ⟨b, 1, none⟩ = some xb1 ∧ wA.cell? ⟨b, 2, none⟩ = some xb2 ∧ wA.cell? ⟨b, 3, none⟩ = some xb3 ∧ wA.cell? ⟨b, 4, none⟩ = some xb4 ∧ Below w1.heap.size w1 wA) (hb : Below wA.heap.size wA wB) :
    wB.cell? ⟨b, 0, none⟩ = some xb0 ∧ wB.cell? ⟨b, 1, none⟩ = some xb1 ∧ wB.cell? ⟨b, 2, none⟩ = some xb2 ∧ wB.cell? ⟨b, 3, none⟩ = some xb3 ∧ wB.cell? ⟨b, 4, none⟩ = some xb4 ∧ Below w1.heap.size w1 wB := by
  obtain ⟨h0, h1, h2, h3, h4, hz⟩ := h
  have hs := hz.size
  exact ⟨(hb.cell (p := ⟨b, 0, none⟩) (by exact Nat.lt_of_lt_of_le hlb hs)).trans h0, (hb.cell (p := ⟨b, 1, none⟩) (by exact Nat.lt_of_lt_of_le hlb hs)).trans h1, (hb.cell (p := ⟨b, 2, none⟩) (by exact Nat.lt_of_lt_of_le hlb hs)).trans h2, (hb.cell (p := ⟨b, 3, none⟩) (by exact Nat.lt_of_lt_of_le hlb hs)).trans h3, (hb.cell (p := ⟨b, 4, none⟩) (by exact Nat.lt_of_lt_of_le hlb hs)).trans h4, hz.trans (hb.mono hs)⟩
end Go.Proofs.Ytephoegcpjdglaa

namespace Go.Proofs.Ytephoegcpjdglaa
open Go.RowKit
theorem there_box {w : World} {b : Nat} {a : Array Value} {t : TypeId} (h : w.heap[b]? = some (.cells a t (0, 0))) (o n : Nat) (hn : o + n ≤ a.size) : w.there b o n := by
  intro j hj
  refine ⟨?_, frozen9 h (o + j)⟩
  rw [box_cell h (o + j), Array.getElem?_eq_getElem (by omega)]
  rfl
theorem setCells_grown (b : Nat) : ∀ (vs : List Value) (o : Nat) (w : World), w.grownBy (w.setCells b o vs) (some b)
  | [], _, _ => ⟨rfl, rfl, rfl, Nat.le_refl _, fun _ _ _ => rfl⟩
  | v :: r, o, w => grown_trans (grown_set w b o v) (setCells_grown b r (o + 1) _)
theorem setCells_at {b : Nat} {t : TypeId} : ∀ (vs : List Value) (o : Nat) (w : World) (a : Array Value), w.heap[b]? = some (.cells a t (0, 0)) → o + vs.length ≤ a.size → ∃ c, (w.setCells b o vs).heap[b]? = some (.cells c t (0, 0)) ∧ c.toList = a.toList.take o ++ vs ++ a.toList.drop (o + vs.length)
  | [], o, w, a, h, _ => ⟨a, h, by simp⟩
  | v :: r, o, w, a, h, hl => by
    have ho : o < a.size := by simp at hl; omega
    obtain ⟨c, h1, h2⟩ := setCells_at r (o + 1) _ _ (set_block9 h o v ho) (by simp at hl ⊢; omega)
    refine ⟨c, h1, ?_⟩
    rw [h2, Array.toList_set, List.length_cons]
    have e1 : (a.toList.set o v).take (o + 1) = a.toList.take o ++ [v] := by
      rw [List.take_add_one, List.take_set_of_le (Nat.le_refl _), List.getElem?_set_self (by simpa using ho)]
      rfl
    have e2 : (a.toList.set o v).drop (o + 1 + r.length) = a.toList.drop (o + (r.length + 1)) := by
      rw [List.drop_set_of_lt (by omega), show o + 1 + r.length = o + (r.length + 1) by omega]
    rw [e1, e2]
    simp
theorem setCells_box {w : World} {b : Nat} {a : Array Value} {t : TypeId} (h : w.heap[b]? = some (.cells a t (0, 0))) (o : Nat) (vs : List Value) (c : Array Value) (hl : o + vs.length ≤ a.size) (hc : c.toList = a.toList.take o ++ vs ++ a.toList.drop (o + vs.length)) : (w.setCells b o vs).heap[b]? = some (.cells c t (0, 0)) := by
  obtain ⟨d, h1, h2⟩ := setCells_at vs o w a h hl
  have : c = d := Array.toList_inj.1 (hc.trans h2.symm)
  rw [this]
  exact h1
theorem setCells_below {B : Nat} {w0 : World} {b : Nat} (hb : B ≤ b) : ∀ (vs : List Value) (o : Nat) {w : World}, Below B w0 w → Below B w0 (w.setCells b o vs)
  | [], _, _, h => h
  | v :: r, o, _, h => setCells_below hb r (o + 1) (h.setCell (p := ⟨b, o, none⟩) hb v)

theorem ldE_execI (ro : Option Nat) (ρ : Operand → Value) (d : Option Tmp) (x : Operand) (t : TypeId) (p : String) (af : Array Edge) (g : Option (Nat × Bool)) (w : World) : (Oper.semAt ro ρ { dst := d, op := .load 51 x, type := t, pos := p, after := af, guard := g }).run Try.prog w = ((ldE (ρ x)).run Try.prog w).andThen fun v w' => .ok (.value v) w' := by
  rw [Oper.semAt_eq _ _ _ (by intro c h; cases h)]
  exact ldE_exec ρ d x t p af g w
theorem stE_execI (ro : Option Nat) (ρ : Operand → Value) (d : Option Tmp) (x y : Operand) (t : TypeId) (p : String) (af : Array Edge) (g : Option (Nat × Bool)) (w : World) : (Oper.semAt ro ρ { dst := d, op := .store 51 x y, type := t, pos := p, after := af, guard := g }).run Try.prog w = ((stE (ρ x) (ρ y)).run Try.prog w).andThen fun _ w' => .ok .skip w' := by
  rw [Oper.semAt_eq _ _ _ (by intro c h; cases h)]
  exact stE_exec ρ d x y t p af g w
theorem ldE_box (w : World) (b : Nat) (a : Array Value) (t : TypeId) (fr : Nat × Nat) (h : w.heap[b]? = some (.cells a t fr)) (hs : a.size = 13) : (ldE (.pointer (some ⟨b, 0, none⟩))).run Try.prog w = .ok (.agg a) w := by
  refine (run_loadAt_mid w b 0 51 a.toList _ (fun j v hj => ?_) Try.underlying51 rfl (by rw [Array.length_toList, hs]; kernel_rfl)).trans (by rw [Array.toArray_toList])
  rw [Nat.zero_add, box_cell h j, ← Array.getElem?_toList]
  exact hj
theorem ldC_execI (ro : Option Nat) (ρ : Operand → Value) (d : Option Tmp) (x : Operand) (t : TypeId) (p : String) (af : Array Edge) (g : Option (Nat × Bool)) (w : World) : (Oper.semAt ro ρ { dst := d, op := .load 46 x, type := t, pos := p, after := af, guard := g }).run Try.prog w = ((ldC (ρ x)).run Try.prog w).andThen fun v w' => .ok (.value v) w' := by
  rw [Oper.semAt_eq _ _ _ (by intro c h; cases h)]
  exact ldC_exec ρ d x t p af g w
theorem stC_execI (ro : Option Nat) (ρ : Operand → Value) (d : Option Tmp) (x y : Operand) (t : TypeId) (p : String) (af : Array Edge) (g : Option (Nat × Bool)) (w : World) : (Oper.semAt ro ρ { dst := d, op := .store 46 x y, type := t, pos := p, after := af, guard := g }).run Try.prog w = ((stC (ρ x) (ρ y)).run Try.prog w).andThen fun _ w' => .ok .skip w' := by
  rw [Oper.semAt_eq _ _ _ (by intro c h; cases h)]
  exact stC_exec ρ d x y t p af g w
end Go.Proofs.Ytephoegcpjdglaa
