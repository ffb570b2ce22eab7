import Derived.Test.YtnbaoimjcaeeaaaCmDTo
import Derived.Test.YtnbaoimjcaeeaaaHRowCTo
/-
  Contracts: corbelref09.key, value, Good, Reads.
-/
namespace Go.Proofs.Ytnbaoimjcaeeaaa
open Go.RowKit Go.Lib

set_option maxRecDepth 100000 in
theorem rkey_any (s : ByteArray) (w : World) : Calls Try.prog 66 #[.string s] w fun e w' => e = .returned (.bool (isKey9 s)) ∧ w' = w := by
  have HK : Hid (isKey9 s = (decide ((1 : Int) ≤ (s.size : Int)) && decide ((s.size : Int) ≤ 64))) := by
    show _ = _
    unfold isKey9
    rw [← Bool.decide_and, decide_eq_decide]
    omega
  by_cases h1 : 1 ≤ s.size
  all_goals
    go_enter Try.func66, Try.ntmps66
    go_wp2
    go_ret
    rw [HK.out]
    first | rw [decide_eq_true (show (1 : Int) ≤ (s.size : Int) by omega)] | rw [decide_eq_false (show ¬ (1 : Int) ≤ (s.size : Int) by omega)]
    exact ⟨rfl, rfl⟩

set_option maxRecDepth 100000 in
theorem rvalue_any (s : ByteArray) (w : World) : Calls Try.prog 67 #[.string s] w fun e w' => e = .returned (.bool (isVal9 s)) ∧ w' = w := by
  have HK : Hid (isVal9 s = decide ((s.size : Int) ≤ 256)) := by
    show _ = _
    unfold isVal9
    rw [decide_eq_decide]
    omega
  go_enter Try.func67, Try.ntmps67
  go_wp2
  go_ret
  rw [HK.out]
  exact ⟨rfl, rfl⟩

set_option maxRecDepth 100000 in
set_option maxHeartbeats 1500000 in
theorem rgood1 (s q : Int) (key old val unt : ByteArray) (lim : Int) (w : World) : Calls Try.prog 36 #[.agg (Cmd9.mk 1 s q key old val unt lim).arr] w fun e w' => e = .returned (.bool (good9 ⟨1, s, q, key, old, val, unt, lim⟩)) ∧ Below w.heap.size w w' := by
  have HG : Hid (good9 ⟨1, s, q, key, old, val, unt, lim⟩ = (same9 ⟨1, s, q, key, old, val, unt, lim⟩ ⟨1, 0, 0, em9, em9, em9, em9, 0⟩)) := rfl
  have he := eqlC
  have hg := grdC
  have hmix : Try.prog.follows Departure.mixedOrders = true := by kernel_rfl
  have hBB : ∀ x y : Obj, Below w.heap.size w ((w.alloc x).alloc y) := fun x y => ((Below.refl _ _).alloc (Nat.le_refl _) x).alloc (by simp) y
  have k1 := fun w => rkey_any key w
  have k2 := fun w => rvalue_any val w
  have k3 := fun w => rvalue_any old w
  generalize good9 ⟨1, s, q, key, old, val, unt, lim⟩ = r at *
  generalize isKey9 key = b1 at *
  generalize isVal9 val = b2 at *
  generalize isVal9 old = b3 at *
  unfold Cmd9.arr
  dsimp only
  go_enter Try.func36, Try.ntmps36
  go_wp2
  all_goals
    go_ret
    refine ⟨?_, by first | exact hBB _ _ | exact below_drewN (hBB _ _) 1⟩
    clear he hg hmix hBB k1 k2 k3
    show Ending.returned (Value.bool _) = _
    rw [HG.out]
    first | done | rfl | (simp_all; done) | (simp_all; intros; exfalso; omega)

set_option maxRecDepth 100000 in
set_option maxHeartbeats 1500000 in
theorem rgood2 (s q : Int) (key old val unt : ByteArray) (lim : Int) (w : World) : Calls Try.prog 36 #[.agg (Cmd9.mk 2 s q key old val unt lim).arr] w fun e w' => e = .returned (.bool (good9 ⟨2, s, q, key, old, val, unt, lim⟩)) ∧ Below w.heap.size w w' := by
  have HG : Hid (good9 ⟨2, s, q, key, old, val, unt, lim⟩ = (decide (1 ≤ s) && same9 ⟨2, s, q, key, old, val, unt, lim⟩ ⟨2, s, 0, em9, em9, em9, em9, 0⟩)) := rfl
  have he := eqlC
  have hg := grdC
  have hmix : Try.prog.follows Departure.mixedOrders = true := by kernel_rfl
  have hBB : ∀ x y : Obj, Below w.heap.size w ((w.alloc x).alloc y) := fun x y => ((Below.refl _ _).alloc (Nat.le_refl _) x).alloc (by simp) y
  have k1 := fun w => rkey_any key w
  have k2 := fun w => rvalue_any val w
  have k3 := fun w => rvalue_any old w
  generalize good9 ⟨2, s, q, key, old, val, unt, lim⟩ = r at *
  generalize isKey9 key = b1 at *
  generalize isVal9 val = b2 at *
  generalize isVal9 old = b3 at *
  unfold Cmd9.arr
  dsimp only
  go_enter Try.func36, Try.ntmps36
  go_wp2
  all_goals
    go_ret
    refine ⟨?_, by first | exact hBB _ _ | exact below_drewN (hBB _ _) 1⟩
    clear he hg hmix hBB k1 k2 k3
    show Ending.returned (Value.bool _) = _
    rw [HG.out]
    first | done | rfl | (simp_all; done) | (simp_all; intros; exfalso; omega)

set_option maxRecDepth 100000 in
set_option maxHeartbeats 1500000 in
theorem rgood3 (s q : Int) (key old val unt : ByteArray) (lim : Int) (w : World) : Calls Try.prog 36 #[.agg (Cmd9.mk 3 s q key old val unt lim).arr] w fun e w' => e = .returned (.bool (good9 ⟨3, s, q, key, old, val, unt, lim⟩)) ∧ Below w.heap.size w w' := by
  have HG : Hid (good9 ⟨3, s, q, key, old, val, unt, lim⟩ = (isKey9 key && isVal9 val && asks9 ⟨3, s, q, key, old, val, unt, lim⟩ ⟨0, 0, 0, key, em9, val, em9, 0⟩)) := rfl
  have HA : Hid (asks9 ⟨3, s, q, key, old, val, unt, lim⟩ ⟨0, 0, 0, key, em9, val, em9, 0⟩ = (decide (1 ≤ s) && decide (1 ≤ q) && same9 ⟨3, s, q, key, old, val, unt, lim⟩ ⟨3, s, q, key, em9, val, em9, 0⟩)) := rfl
  have he := eqlC
  have hg := grdC
  have hmix : Try.prog.follows Departure.mixedOrders = true := by kernel_rfl
  have hBB : ∀ x y : Obj, Below w.heap.size w ((w.alloc x).alloc y) := fun x y => ((Below.refl _ _).alloc (Nat.le_refl _) x).alloc (by simp) y
  have k1 := fun w => rkey_any key w
  have k2 := fun w => rvalue_any val w
  have k3 := fun w => rvalue_any old w
  generalize good9 ⟨3, s, q, key, old, val, unt, lim⟩ = r at *
  generalize isKey9 key = b1 at *
  generalize isVal9 val = b2 at *
  generalize isVal9 old = b3 at *
  unfold Cmd9.arr
  dsimp only
  cases b1 with
  | false =>
    go_enter Try.func36, Try.ntmps36
    go_wp2_with fail
    refine same_mono (k1 _) ?_
    go_wp2
    all_goals
      go_ret
      refine ⟨?_, by first | exact hBB _ _ | exact below_drewN (hBB _ _) 1⟩
      clear he hg hmix hBB k1 k2 k3
      show Ending.returned (Value.bool _) = _
      rw [HG.out, HA.out]
      first | done | rfl | (simp_all; done) | (simp_all; intros; exfalso; omega)
  | true =>
    go_enter Try.func36, Try.ntmps36
    go_wp2_with fail
    refine same_mono (k1 _) ?_
    go_wp2_with fail
    refine same_mono (k2 _) ?_
    go_wp2
    all_goals
      go_ret
      refine ⟨?_, by first | exact hBB _ _ | exact below_drewN (hBB _ _) 1⟩
      clear he hg hmix hBB k1 k2 k3
      show Ending.returned (Value.bool _) = _
      rw [HG.out, HA.out]
      first | done | rfl | (simp_all; done) | (simp_all; intros; exfalso; omega)

set_option maxRecDepth 100000 in
set_option maxHeartbeats 1500000 in
theorem rgood4 (s q : Int) (key old val unt : ByteArray) (lim : Int) (w : World) : Calls Try.prog 36 #[.agg (Cmd9.mk 4 s q key old val unt lim).arr] w fun e w' => e = .returned (.bool (good9 ⟨4, s, q, key, old, val, unt, lim⟩)) ∧ Below w.heap.size w w' := by
  have HG : Hid (good9 ⟨4, s, q, key, old, val, unt, lim⟩ = (isKey9 key && asks9 ⟨4, s, q, key, old, val, unt, lim⟩ ⟨0, 0, 0, key, em9, em9, em9, 0⟩)) := rfl
  have HA : Hid (asks9 ⟨4, s, q, key, old, val, unt, lim⟩ ⟨0, 0, 0, key, em9, em9, em9, 0⟩ = (decide (1 ≤ s) && decide (1 ≤ q) && same9 ⟨4, s, q, key, old, val, unt, lim⟩ ⟨4, s, q, key, em9, em9, em9, 0⟩)) := rfl
  have he := eqlC
  have hg := grdC
  have hmix : Try.prog.follows Departure.mixedOrders = true := by kernel_rfl
  have hBB : ∀ x y : Obj, Below w.heap.size w ((w.alloc x).alloc y) := fun x y => ((Below.refl _ _).alloc (Nat.le_refl _) x).alloc (by simp) y
  have k1 := fun w => rkey_any key w
  have k2 := fun w => rvalue_any val w
  have k3 := fun w => rvalue_any old w
  generalize good9 ⟨4, s, q, key, old, val, unt, lim⟩ = r at *
  generalize isKey9 key = b1 at *
  generalize isVal9 val = b2 at *
  generalize isVal9 old = b3 at *
  unfold Cmd9.arr
  dsimp only
  go_enter Try.func36, Try.ntmps36
  go_wp2_with fail
  refine same_mono (k1 _) ?_
  go_wp2
  all_goals
    go_ret
    refine ⟨?_, by first | exact hBB _ _ | exact below_drewN (hBB _ _) 1⟩
    clear he hg hmix hBB k1 k2 k3
    show Ending.returned (Value.bool _) = _
    rw [HG.out, HA.out]
    first | done | rfl | (simp_all; done) | (simp_all; intros; exfalso; omega)

set_option maxRecDepth 100000 in
set_option maxHeartbeats 1500000 in
theorem rgood5 (s q : Int) (key old val unt : ByteArray) (lim : Int) (w : World) : Calls Try.prog 36 #[.agg (Cmd9.mk 5 s q key old val unt lim).arr] w fun e w' => e = .returned (.bool (good9 ⟨5, s, q, key, old, val, unt, lim⟩)) ∧ Below w.heap.size w w' := by
  have HG : Hid (good9 ⟨5, s, q, key, old, val, unt, lim⟩ = (isKey9 key && asks9 ⟨5, s, q, key, old, val, unt, lim⟩ ⟨0, 0, 0, key, em9, em9, em9, 0⟩)) := rfl
  have HA : Hid (asks9 ⟨5, s, q, key, old, val, unt, lim⟩ ⟨0, 0, 0, key, em9, em9, em9, 0⟩ = (decide (1 ≤ s) && decide (1 ≤ q) && same9 ⟨5, s, q, key, old, val, unt, lim⟩ ⟨5, s, q, key, em9, em9, em9, 0⟩)) := rfl
  have he := eqlC
  have hg := grdC
  have hmix : Try.prog.follows Departure.mixedOrders = true := by kernel_rfl
  have hBB : ∀ x y : Obj, Below w.heap.size w ((w.alloc x).alloc y) := fun x y => ((Below.refl _ _).alloc (Nat.le_refl _) x).alloc (by simp) y
  have k1 := fun w => rkey_any key w
  have k2 := fun w => rvalue_any val w
  have k3 := fun w => rvalue_any old w
  generalize good9 ⟨5, s, q, key, old, val, unt, lim⟩ = r at *
  generalize isKey9 key = b1 at *
  generalize isVal9 val = b2 at *
  generalize isVal9 old = b3 at *
  unfold Cmd9.arr
  dsimp only
  go_enter Try.func36, Try.ntmps36
  go_wp2_with fail
  refine same_mono (k1 _) ?_
  go_wp2
  all_goals
    go_ret
    refine ⟨?_, by first | exact hBB _ _ | exact below_drewN (hBB _ _) 1⟩
    clear he hg hmix hBB k1 k2 k3
    show Ending.returned (Value.bool _) = _
    rw [HG.out, HA.out]
    first | done | rfl | (simp_all; done) | (simp_all; intros; exfalso; omega)

set_option maxRecDepth 100000 in
set_option maxHeartbeats 1500000 in
theorem rgood6 (s q : Int) (key old val unt : ByteArray) (lim : Int) (w : World) : Calls Try.prog 36 #[.agg (Cmd9.mk 6 s q key old val unt lim).arr] w fun e w' => e = .returned (.bool (good9 ⟨6, s, q, key, old, val, unt, lim⟩)) ∧ Below w.heap.size w w' := by
  have HG : Hid (good9 ⟨6, s, q, key, old, val, unt, lim⟩ = (isKey9 key && isVal9 old && isVal9 val && asks9 ⟨6, s, q, key, old, val, unt, lim⟩ ⟨0, 0, 0, key, old, val, em9, 0⟩)) := rfl
  have HA : Hid (asks9 ⟨6, s, q, key, old, val, unt, lim⟩ ⟨0, 0, 0, key, old, val, em9, 0⟩ = (decide (1 ≤ s) && decide (1 ≤ q) && same9 ⟨6, s, q, key, old, val, unt, lim⟩ ⟨6, s, q, key, old, val, em9, 0⟩)) := rfl
  have he := eqlC
  have hg := grdC
  have hmix : Try.prog.follows Departure.mixedOrders = true := by kernel_rfl
  have hBB : ∀ x y : Obj, Below w.heap.size w ((w.alloc x).alloc y) := fun x y => ((Below.refl _ _).alloc (Nat.le_refl _) x).alloc (by simp) y
  have k1 := fun w => rkey_any key w
  have k2 := fun w => rvalue_any val w
  have k3 := fun w => rvalue_any old w
  generalize good9 ⟨6, s, q, key, old, val, unt, lim⟩ = r at *
  generalize isKey9 key = b1 at *
  generalize isVal9 val = b2 at *
  generalize isVal9 old = b3 at *
  unfold Cmd9.arr
  dsimp only
  cases b1 with
  | false =>
    go_enter Try.func36, Try.ntmps36
    go_wp2_with fail
    refine same_mono (k1 _) ?_
    go_wp2_with fail
    apply once_proved9
    case main =>
      intro key
      go_region_with (fail)
      all_goals exact key.out
    case proof =>
      go_wp2
      all_goals
        go_ret
        refine ⟨?_, by first | exact hBB _ _ | exact below_drewN (hBB _ _) 1⟩
        clear he hg hmix hBB k1 k2 k3
        show Ending.returned (Value.bool _) = _
        rw [HG.out, HA.out]
        first | done | rfl | (simp_all; done) | (simp_all; intros; exfalso; omega)
  | true =>
    cases b3 with
    | false =>
      go_enter Try.func36, Try.ntmps36
      go_wp2_with fail
      refine same_mono (k1 _) ?_
      go_wp2_with fail
      apply once_proved9
      case main =>
        intro key
        go_region_with (fail)
        all_goals exact key.out
      case proof =>
        go_wp2_with fail
        refine same_mono (k3 _) ?_
        go_wp2
        all_goals
          go_ret
          refine ⟨?_, by first | exact hBB _ _ | exact below_drewN (hBB _ _) 1⟩
          clear he hg hmix hBB k1 k2 k3
          show Ending.returned (Value.bool _) = _
          rw [HG.out, HA.out]
          first | done | rfl | (simp_all; done) | (simp_all; intros; exfalso; omega)
    | true =>
      go_enter Try.func36, Try.ntmps36
      go_wp2_with fail
      refine same_mono (k1 _) ?_
      go_wp2_with fail
      apply once_proved9
      case main =>
        intro key
        go_region_with (fail)
        all_goals exact key.out
      case proof =>
        go_wp2_with fail
        refine same_mono (k3 _) ?_
        go_wp2_with fail
        refine same_mono (k2 _) ?_
        go_wp2
        all_goals
          go_ret
          refine ⟨?_, by first | exact hBB _ _ | exact below_drewN (hBB _ _) 1⟩
          clear he hg hmix hBB k1 k2 k3
          show Ending.returned (Value.bool _) = _
          rw [HG.out, HA.out]
          first | done | rfl | (simp_all; done) | (simp_all; intros; exfalso; omega)

set_option maxRecDepth 100000 in
set_option maxHeartbeats 1500000 in
theorem rgood7 (s q : Int) (key old val unt : ByteArray) (lim : Int) (w : World) : Calls Try.prog 36 #[.agg (Cmd9.mk 7 s q key old val unt lim).arr] w fun e w' => e = .returned (.bool (good9 ⟨7, s, q, key, old, val, unt, lim⟩)) ∧ Below w.heap.size w w' := by
  have HG : Hid (good9 ⟨7, s, q, key, old, val, unt, lim⟩ = (isBnd9 key && isBnd9 unt && isLim9 lim && asks9 ⟨7, s, q, key, old, val, unt, lim⟩ ⟨0, 0, 0, key, em9, em9, unt, lim⟩)) := rfl
  have HA : Hid (asks9 ⟨7, s, q, key, old, val, unt, lim⟩ ⟨0, 0, 0, key, em9, em9, unt, lim⟩ = (decide (1 ≤ s) && decide (1 ≤ q) && same9 ⟨7, s, q, key, old, val, unt, lim⟩ ⟨7, s, q, key, em9, em9, unt, lim⟩)) := rfl
  have he := eqlC
  have hg := grdC
  have hmix : Try.prog.follows Departure.mixedOrders = true := by kernel_rfl
  have hBB : ∀ x y : Obj, Below w.heap.size w ((w.alloc x).alloc y) := fun x y => ((Below.refl _ _).alloc (Nat.le_refl _) x).alloc (by simp) y
  have k1 := fun w => rkey_any key w
  have k2 := fun w => rvalue_any val w
  have k3 := fun w => rvalue_any old w
  generalize good9 ⟨7, s, q, key, old, val, unt, lim⟩ = r at *
  generalize isKey9 key = b1 at *
  generalize isVal9 val = b2 at *
  generalize isVal9 old = b3 at *
  unfold Cmd9.arr
  dsimp only
  have HX : Hid (isBnd9 key = decide ((key.size : Int) ≤ 64) ∧ isBnd9 unt = decide ((unt.size : Int) ≤ 64) ∧ isLim9 lim = (decide (1 ≤ lim) && decide (lim ≤ 64))) := by
    refine ⟨?_, ?_, ?_⟩
    · unfold isBnd9; rw [decide_eq_decide]; omega
    · unfold isBnd9; rw [decide_eq_decide]; omega
    · unfold isLim9; rw [← Bool.decide_and]
  go_enter Try.func36, Try.ntmps36
  go_wp2_with fail
  refine same_mono (k1 _) ?_
  go_wp2_with fail
  apply once_proved9
  case main =>
    intro key
    go_region_with (fail)
    all_goals exact key.out
  case proof =>
    go_wp2
    all_goals
      go_ret
      refine ⟨?_, by first | exact hBB _ _ | exact below_drewN (hBB _ _) 1⟩
      clear he hg hmix hBB k1 k2 k3
      show Ending.returned (Value.bool _) = _
      rw [HG.out, HA.out, HX.out.1, HX.out.2.1, HX.out.2.2]
      first | done | rfl | (simp_all; done) | (simp_all; intros; exfalso; omega)

set_option maxRecDepth 100000 in
set_option maxHeartbeats 1500000 in
theorem rgood_any (c : Cmd9) (w : World) : Calls Try.prog 36 #[.agg c.arr] w fun e w' => e = .returned (.bool (good9 c)) ∧ Below w.heap.size w w' := by
  obtain ⟨k, s, q, key, old, val, unt, lim⟩ := c
  by_cases h1 : k = 1
  · subst h1; exact rgood1 s q key old val unt lim w
  by_cases h2 : k = 2
  · subst h2; exact rgood2 s q key old val unt lim w
  by_cases h3 : k = 3
  · subst h3; exact rgood3 s q key old val unt lim w
  by_cases h4 : k = 4
  · subst h4; exact rgood4 s q key old val unt lim w
  by_cases h5 : k = 5
  · subst h5; exact rgood5 s q key old val unt lim w
  by_cases h6 : k = 6
  · subst h6; exact rgood6 s q key old val unt lim w
  by_cases h7 : k = 7
  · subst h7; exact rgood7 s q key old val unt lim w
  have HG : Hid (good9 ⟨k, s, q, key, old, val, unt, lim⟩ = false) := by
    show _ = _
    unfold good9
    dsimp only
    rw [if_neg h1, if_neg h2, if_neg h3, if_neg (by omega), if_neg h6, if_neg h7]
  have hBB : ∀ x y : Obj, Below w.heap.size w ((w.alloc x).alloc y) := fun x y => ((Below.refl _ _).alloc (Nat.le_refl _) x).alloc (by simp) y
  have k1 := fun w => rkey_any key w
  generalize isKey9 key = b1 at *
  unfold Cmd9.arr
  dsimp only
  go_enter Try.func36, Try.ntmps36
  go_wp2_with fail
  refine same_mono (k1 _) ?_
  go_wp2
  all_goals
    go_ret
    rw [HG.out]
    exact ⟨rfl, hBB _ _⟩

end Go.Proofs.Ytnbaoimjcaeeaaa

/-
  The walk of CommandKinds.
-/
namespace Go.Proofs.Ytnbaoimjcaeeaaa
open Go.RowKit Go.Lib

theorem asks_s {c n : Cmd9} (h : asks9 c n = true) : 1 ≤ c.s := by
  unfold asks9 at h
  simp only [Bool.and_eq_true, decide_eq_true_eq] at h
  exact h.1.1
theorem good_s {c : Cmd9} (h : good9 c = true) : c.k = 1 ∨ 1 ≤ c.s := by
  unfold good9 at h
  repeat' split at h
  all_goals first
    | (left; assumption)
    | (right; simp only [Bool.and_eq_true, decide_eq_true_eq] at h; first | exact asks_s h.2 | exact h.1)
    | cases h
theorem reads_is {c : Cmd9} (h : reads9 c = true) : good9 ⟨c.k, 1, 1, c.key, c.old, c.val, c.unt, c.lim⟩ = true ∧ good9 c = false ∧ changes9 c.k = false := by
  unfold reads9 at h
  split at h
  · rename_i hc
    refine ⟨h, ?_, ?_⟩
    · cases hg : good9 c with
      | false => rfl
      | true =>
        have := good_s hg
        omega
    · unfold changes9
      exact decide_eq_false (by omega)
  · cases h

/-- A command's box, and that old memory lies as it lay. -/
def Box9 (w0 w : World) (b : Nat) (c : Cmd9) : Prop := CmdAt w b c ∧ Below w0.heap.size w0 w ∧ w0.heap.size ≤ b
theorem Box9.new (w : World) (c : Cmd9) : Box9 w (w.alloc (.cells c.arr 23)) w.heap.size c := ⟨CmdAt.new w c, (Below.refl _ _).alloc (Nat.le_refl _) _, Nat.le_refl _⟩
theorem Box9.below {w0 w w' : World} {b : Nat} {c : Cmd9} (h : Box9 w0 w b c) (hb : Below w.heap.size w w') : Box9 w0 w' b c := ⟨h.1.below hb, h.2.1.trans (hb.mono h.2.1.size), h.2.2⟩
theorem Box9.more {w0 w : World} {b : Nat} {c : Cmd9} (h : Box9 w0 w b c) (x : Obj) : Box9 w0 (w.alloc x) b c := h.below ((Below.refl _ _).alloc (Nat.le_refl _) x)
theorem Box9.cells {w0 w : World} {b : Nat} {k s q : Int} {key old val unt : ByteArray} {lim : Int} (h : Box9 w0 w b ⟨k, s, q, key, old, val, unt, lim⟩) :
    w.cell? ⟨b, 0, none⟩ = some (.int .i64 k) ∧ w.cell? ⟨b, 1, none⟩ = some (.int .i64 s) ∧ w.cell? ⟨b, 2, none⟩ = some (.int .i64 q) ∧ w.cell? ⟨b, 3, none⟩ = some (.string key) ∧
    w.cell? ⟨b, 4, none⟩ = some (.string old) ∧ w.cell? ⟨b, 5, none⟩ = some (.string val) ∧ w.cell? ⟨b, 6, none⟩ = some (.string unt) ∧ w.cell? ⟨b, 7, none⟩ = some (.int .i64 lim) := h.1.cells
end Go.Proofs.Ytnbaoimjcaeeaaa
