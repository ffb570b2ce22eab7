/-
  Contracts: command.Same, corbelref09.Same.
-/
import Derived.Test.YtomhmoedicajoaaCmM
import Derived.Test.YtomhmoedicajoaaCmS
namespace Go.Proofs.Ytomhmoedicajoaa
open Go.RowKit

set_option maxRecDepth 100000 in
set_option maxHeartbeats 1500000 in
theorem sameR_any (r s : Rep9) (p q : Option Addr) (n m c d : Nat) (w : World) (hp : HasP w (.slice p n c) r.l) (hq : HasP w (.slice q m d) s.l) (lp : r.l.length ≤ 1099511627776) (lq : s.l.length ≤ 1099511627776) :
    Calls Try.prog 28 #[.agg (r.arr (.slice p n c)), .agg (s.arr (.slice q m d))] w fun e w' => e = .returned (.bool (sameR9 r s)) ∧ Below w.heap.size w w' := by
  have HD : Hid (sameR9 r s = (decide (r.err = s.err) && decide (r.found = s.found) && decide (r.val = s.val) && decide (r.ses = s.ses) && decide (r.l = s.l))) := rfl
  have hBB : Below w.heap.size w ((w.alloc (.cells (r.arr (.slice p n c)) 39)).alloc (.cells (s.arr (.slice q m d)) 39)) := ((Below.refl _ _).alloc (Nat.le_refl _) _).alloc (by simp) _
  have hcon := equal_any _ _ _ _ _ (hp.below hBB (Nat.le_refl _)) (hq.below hBB (Nat.le_refl _)) lp lq
  generalize sameR9 r s = R at *
  obtain ⟨e1, f1, v1, s1, l1⟩ := r
  obtain ⟨e2, f2, v2, s2, l2⟩ := s
  unfold Rep9.arr at *
  dsimp only at *
  generalize decide (l1 = l2) = L at *
  clear hp hq
  by_cases h1 : e1 = e2
  case neg =>
    have HB : Hid (R = false) := by rw [Hid, HD.out, decide_eq_false h1]; rfl
    have h1' : (e1 == e2) = false := by simpa using h1
    clear HD
    go_enter Try.func28, Try.ntmps28
    go_wp2
    go_ret
    rw [HB.out]
    exact ⟨rfl, hBB⟩
  subst h1
  by_cases h2 : f1 = f2
  case neg =>
    have HB : Hid (R = false) := by rw [Hid, HD.out, decide_eq_false h2]; simp
    have h2' : (f1 == f2) = false := by cases f1 <;> cases f2 <;> first | rfl | exact absurd rfl h2
    clear HD
    go_enter Try.func28, Try.ntmps28
    go_wp2
    go_ret
    rw [HB.out]
    exact ⟨rfl, hBB⟩
  subst h2
  by_cases h3 : v1 = v2
  case neg =>
    have HB : Hid (R = false) := by rw [Hid, HD.out, decide_eq_false h3]; simp
    have h3' : (v1.toList == v2.toList) = false := by rw [toList_beq]; exact decide_eq_false h3
    clear HD
    go_enter Try.func28, Try.ntmps28
    go_wp2
    go_ret
    rw [HB.out]
    exact ⟨rfl, hBB⟩
  subst h3
  by_cases h4 : s1 = s2
  case neg =>
    have HB : Hid (R = false) := by rw [Hid, HD.out, decide_eq_false h4]; simp
    have h4' : (s1 == s2) = false := by simpa using h4
    clear HD
    go_enter Try.func28, Try.ntmps28
    go_wp2
    go_ret
    rw [HB.out]
    exact ⟨rfl, hBB⟩
  subst h4
  have HB : Hid (R = L) := by rw [Hid, HD.out]; simp
  clear HD
  go_enter Try.func28, Try.ntmps28
  go_wp2_with fail
  refine hcon.mono ?_
  rintro e w1 ⟨rfl, hb1⟩
  have hB1 := hBB.trans (hb1.mono hBB.size)
  go_wp2
  go_ret
  rw [HB.out]
  exact ⟨rfl, hB1⟩

set_option maxRecDepth 100000 in
set_option maxHeartbeats 1500000 in
theorem rsameR_any (r s : Rep9) (p q : Option Addr) (n m c d : Nat) (w : World) (hp : HasP w (.slice p n c) r.l) (hq : HasP w (.slice q m d) s.l) (lp : r.l.length ≤ 1099511627776) (lq : s.l.length ≤ 1099511627776) :
    Calls Try.prog 27 #[.agg (r.arr (.slice p n c)), .agg (s.arr (.slice q m d))] w fun e w' => e = .returned (.bool (sameR9 r s)) ∧ Below w.heap.size w w' := by
  have HD : Hid (sameR9 r s = (decide (r.err = s.err) && decide (r.found = s.found) && decide (r.val = s.val) && decide (r.ses = s.ses) && decide (r.l = s.l))) := rfl
  have hBB : Below w.heap.size w ((w.alloc (.cells (r.arr (.slice p n c)) 39)).alloc (.cells (s.arr (.slice q m d)) 39)) := ((Below.refl _ _).alloc (Nat.le_refl _) _).alloc (by simp) _
  have hcon := rsame_any _ _ _ _ _ (hp.below hBB (Nat.le_refl _)) (hq.below hBB (Nat.le_refl _)) lp lq
  generalize sameR9 r s = R at *
  obtain ⟨e1, f1, v1, s1, l1⟩ := r
  obtain ⟨e2, f2, v2, s2, l2⟩ := s
  unfold Rep9.arr at *
  dsimp only at *
  generalize decide (l1 = l2) = L at *
  clear hp hq
  by_cases h1 : e1 = e2
  case neg =>
    have HB : Hid (R = false) := by rw [Hid, HD.out, decide_eq_false h1]; rfl
    have h1' : (e1 == e2) = false := by simpa using h1
    clear HD
    go_enter Try.func27, Try.ntmps27
    go_wp2
    go_ret
    rw [HB.out]
    exact ⟨rfl, hBB⟩
  subst h1
  by_cases h2 : f1 = f2
  case neg =>
    have HB : Hid (R = false) := by rw [Hid, HD.out, decide_eq_false h2]; simp
    have h2' : (f1 == f2) = false := by cases f1 <;> cases f2 <;> first | rfl | exact absurd rfl h2
    clear HD
    go_enter Try.func27, Try.ntmps27
    go_wp2
    go_ret
    rw [HB.out]
    exact ⟨rfl, hBB⟩
  subst h2
  by_cases h3 : v1 = v2
  case neg =>
    have HB : Hid (R = false) := by rw [Hid, HD.out, decide_eq_false h3]; simp
    have h3' : (v1.toList == v2.toList) = false := by rw [toList_beq]; exact decide_eq_false h3
    clear HD
    go_enter Try.func27, Try.ntmps27
    go_wp2
    go_ret
    rw [HB.out]
    exact ⟨rfl, hBB⟩
  subst h3
  by_cases h4 : s1 = s2
  case neg =>
    have HB : Hid (R = false) := by rw [Hid, HD.out, decide_eq_false h4]; simp
    have h4' : (s1 == s2) = false := by simpa using h4
    clear HD
    go_enter Try.func27, Try.ntmps27
    go_wp2
    go_ret
    rw [HB.out]
    exact ⟨rfl, hBB⟩
  subst h4
  have HB : Hid (R = L) := by rw [Hid, HD.out]; simp
  clear HD
  go_enter Try.func27, Try.ntmps27
  go_wp2_with fail
  refine hcon.mono ?_
  rintro e w1 ⟨rfl, hb1⟩
  have hB1 := hBB.trans (hb1.mono hBB.size)
  go_wp2
  go_ret
  rw [HB.out]
  exact ⟨rfl, hB1⟩

end Go.Proofs.Ytomhmoedicajoaa
