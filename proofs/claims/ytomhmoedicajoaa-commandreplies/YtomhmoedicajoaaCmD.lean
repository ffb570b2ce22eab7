/-
  Contracts: command.Reads, Changes; what lives and great of the statements tell.
-/
import Derived.Test.YtomhmoedicajoaaCmC
namespace Go.Proofs.Ytomhmoedicajoaa
open Go.RowKit Go.Lib

set_option maxRecDepth 100000 in
set_option maxHeartbeats 1500000 in
theorem reads_any (c : Cmd9) (w : World) : Calls Try.prog 13 #[.agg c.arr] w fun e w' => e = .returned (.bool (reads9 c)) ∧ Below w.heap.size w w' := by
  have HR : Hid (reads9 c = if (c.k = 4 ∨ c.k = 7) ∧ c.s = 0 ∧ c.q = 0 then good9 ⟨c.k, 1, 1, c.key, c.old, c.val, c.unt, c.lim⟩ else false) := rfl
  have hB : ∀ x : Obj, Below w.heap.size w (w.alloc x) := fun x => (Below.refl _ _).alloc (Nat.le_refl _) x
  generalize reads9 c = r at *
  obtain ⟨k, s, q, key, old, val, unt, lim⟩ := c
  unfold Cmd9.arr
  dsimp only at *
  by_cases h : (k = 4 ∨ k = 7) ∧ s = 0 ∧ q = 0
  · have HR2 : Hid (r = good9 ⟨k, 1, 1, key, old, val, unt, lim⟩) := by rw [Hid, HR.out, if_pos h]
    clear HR
    obtain ⟨hk, rfl, rfl⟩ := h
    have hgd := good_any ⟨k, 1, 1, key, old, val, unt, lim⟩ (w.alloc (.cells (Cmd9.mk k 1 1 key old val unt lim).arr 23))
    unfold Cmd9.arr at hgd
    dsimp only at hgd
    have hB1 := hB (.cells #[.int .i64 k, .int .i64 1, .int .i64 1, .string key, .string old, .string val, .string unt, .int .i64 lim] 23)
    generalize good9 ⟨k, 1, 1, key, old, val, unt, lim⟩ = g at *
    rcases hk with rfl | rfl
    all_goals
      go_enter Try.func13, Try.ntmps13
      go_wp2_with fail
      refine hgd.mono ?_
      rintro e w1 ⟨rfl, hb1⟩
      have hB2 : Below w.heap.size w w1 := hB1.trans (hb1.mono (by simp))
      go_wp2
      go_ret
      rw [HR2.out]
      exact ⟨rfl, hB2⟩
  · have HR2 : Hid (r = false) := by rw [Hid, HR.out, if_neg h]
    clear HR
    by_cases h4 : k = 4 <;> by_cases h7 : k = 7 <;> by_cases hs : s = 0 <;> by_cases hq : q = 0
    all_goals first
      | (exfalso; omega)
      | (clear h
         go_enter Try.func13, Try.ntmps13
         go_wp2
         go_ret
         rw [HR2.out]
         exact ⟨rfl, hB _⟩)

set_option maxRecDepth 100000 in
set_option maxHeartbeats 1500000 in
theorem changes_any (k : Int) (w : World) : Calls Try.prog 15 #[.int .i64 k] w fun e w' => e = .returned (.bool (changes9 k)) ∧ w' = w := by
  by_cases h3 : k = 3
  · subst h3
    go_enter Try.func15, Try.ntmps15
    go_wp2
    go_ret
    exact ⟨rfl, rfl⟩
  by_cases h5 : k = 5
  · subst h5
    go_enter Try.func15, Try.ntmps15
    go_wp2
    go_ret
    exact ⟨rfl, rfl⟩
  by_cases h6 : k = 6
  · subst h6
    go_enter Try.func15, Try.ntmps15
    go_wp2
    go_ret
    exact ⟨rfl, rfl⟩
  have HK : Hid (changes9 k = false) := decide_eq_false (by omega)
  have e3 : (k == 3) = false := by simpa using h3
  have e5 : (k == 5) = false := by simpa using h5
  have e6 : (k == 6) = false := by simpa using h6
  go_enter Try.func15, Try.ntmps15
  go_wp2
  go_ret
  rw [HK.out]
  exact ⟨rfl, rfl⟩

set_option maxRecDepth 100000 in
set_option maxHeartbeats 1500000 in
theorem rchanges_any (k : Int) (w : World) : Calls Try.prog 16 #[.int .i64 k] w fun e w' => e = .returned (.bool (changes9 k)) ∧ w' = w := by
  by_cases h3 : k = 3
  · subst h3
    go_enter Try.func16, Try.ntmps16
    go_wp2
    go_ret
    exact ⟨rfl, rfl⟩
  by_cases h5 : k = 5
  · subst h5
    go_enter Try.func16, Try.ntmps16
    go_wp2
    go_ret
    exact ⟨rfl, rfl⟩
  by_cases h6 : k = 6
  · subst h6
    go_enter Try.func16, Try.ntmps16
    go_wp2
    go_ret
    exact ⟨rfl, rfl⟩
  have HK : Hid (changes9 k = false) := decide_eq_false (by omega)
  have e3 : (k == 3) = false := by simpa using h3
  have e5 : (k == 5) = false := by simpa using h5
  have e6 : (k == 6) = false := by simpa using h6
  go_enter Try.func16, Try.ntmps16
  go_wp2
  go_ret
  rw [HK.out]
  exact ⟨rfl, rfl⟩

set_option maxRecDepth 100000 in
set_option maxHeartbeats 1500000 in
theorem great_any (c : Cmd9) (w : World) (h1 : c.key.size ≤ 140737488351232) (h2 : c.old.size ≤ 140737488351232) (h3 : c.val.size ≤ 140737488351232) (h4 : c.unt.size ≤ 140737488351232) :
    Calls Try.prog 9 #[.agg c.arr] w fun e w' => e = .returned (.bool (decide (5000 < c.key.size + c.old.size + c.val.size + c.unt.size))) ∧ Below w.heap.size w w' := by
  have hB : ∀ x : Obj, Below w.heap.size w (w.alloc x) := fun x => (Below.refl _ _).alloc (Nat.le_refl _) x
  obtain ⟨k, s, q, key, old, val, unt, lim⟩ := c
  unfold Cmd9.arr
  dsimp only at *
  have HD : Hid (decide (5000 < key.size + old.size + val.size + unt.size) = decide ((5000 : Int) < (key.size : Int) + (old.size : Int) + (val.size : Int) + (unt.size : Int))) := by
    show _ = _
    rw [decide_eq_decide]
    omega
  go_enter Try.func9, Try.ntmps9
  go_wp2
  go_ret
  rw [HD.out]
  exact ⟨rfl, hB _⟩

set_option maxRecDepth 100000 in
set_option maxHeartbeats 1500000 in
theorem lives_any (w : World) : Calls Try.prog 10 #[] w fun e w' => e = .returned (.bool true) ∧ Below w.heap.size w w' := by
  have hB : ∀ x : Obj, Below w.heap.size w (w.alloc x) := fun x => (Below.refl _ _).alloc (Nat.le_refl _) x
  have k1 := fun w => good_any ⟨3, 1, 1, ⟨#[107]⟩, em9, ⟨#[118]⟩, em9, 0⟩ w
  have k2 := fun w => good_any ⟨1, 1, 0, em9, em9, em9, em9, 0⟩ w
  have k3 := fun w => reads_any ⟨4, 0, 0, ⟨#[107]⟩, em9, em9, em9, 0⟩ w
  have k4 := fun w => changes_any 6 w
  rw [show good9 ⟨3, 1, 1, ⟨#[107]⟩, em9, ⟨#[118]⟩, em9, 0⟩ = true by decide +kernel] at k1
  rw [show good9 ⟨1, 1, 0, em9, em9, em9, em9, 0⟩ = false by decide +kernel] at k2
  rw [show reads9 ⟨4, 0, 0, ⟨#[107]⟩, em9, em9, em9, 0⟩ = true by decide +kernel] at k3
  rw [show changes9 6 = true by decide +kernel] at k4
  unfold Cmd9.arr at k1 k2 k3
  dsimp only at k1 k2 k3
  go_enter Try.func10, Try.ntmps10
  go_wp2_with fail
  refine (k1 _).mono ?_
  rintro e w1 ⟨rfl, hb1⟩
  have hB1 : Below w.heap.size w w1 := (hB _).trans (hb1.mono (by simp))
  clear k1 hb1
  go_wp2_with fail
  refine (k2 _).mono ?_
  rintro e w2 ⟨rfl, hb2⟩
  have hB2 : Below w.heap.size w w2 := hB1.trans (hb2.mono hB1.size)
  clear k2 hb2 hB1
  go_wp2_with fail
  refine (k3 _).mono ?_
  rintro e w3 ⟨rfl, hb3⟩
  have hB3 : Below w.heap.size w w3 := hB2.trans (hb3.mono hB2.size)
  clear k3 hb3 hB2
  go_wp2_with fail
  refine same_mono (k4 _) ?_
  go_wp2
  go_ret
  exact ⟨rfl, hB3⟩
end Go.Proofs.Ytomhmoedicajoaa
