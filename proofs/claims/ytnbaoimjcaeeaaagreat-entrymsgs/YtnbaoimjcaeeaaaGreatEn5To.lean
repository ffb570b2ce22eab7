import Derived.Test.YtnbaoimjcaeeaaaGreatCmDTo
/-
  Contracts: corbelref09.key, value, Good, Reads.
-/
namespace Go.Proofs.YtnbaoimjcaeeaaaGreat
open Go.RowKit Go.Lib

set_option maxRecDepth 100000 in
theorem rkey_any (s : ByteArray) (w : World) : Calls Tryz.prog 107 #[.string s] w fun e w' => e = .returned (.bool (isKey9 s)) ∧ w' = w := by
  have HK : Hid (isKey9 s = (decide ((1 : Int) ≤ (s.size : Int)) && decide ((s.size : Int) ≤ 64))) := by
    show _ = _
    unfold isKey9
    rw [← Bool.decide_and, decide_eq_decide]
    omega
  by_cases h1 : 1 ≤ s.size
  all_goals
    go_enter Tryz.func107, Tryz.ntmps107
    go_wp2
    go_ret
    rw [HK.out]
    first | rw [decide_eq_true (show (1 : Int) ≤ (s.size : Int) by omega)] | rw [decide_eq_false (show ¬ (1 : Int) ≤ (s.size : Int) by omega)]
    exact ⟨rfl, rfl⟩

set_option maxRecDepth 100000 in
theorem rvalue_any (s : ByteArray) (w : World) : Calls Tryz.prog 108 #[.string s] w fun e w' => e = .returned (.bool (isVal9 s)) ∧ w' = w := by
  have HK : Hid (isVal9 s = decide ((s.size : Int) ≤ 256)) := by
    show _ = _
    unfold isVal9
    rw [decide_eq_decide]
    omega
  go_enter Tryz.func108, Tryz.ntmps108
  go_wp2
  go_ret
  rw [HK.out]
  exact ⟨rfl, rfl⟩

set_option maxRecDepth 100000 in
set_option maxHeartbeats 1500000 in
theorem rgood1 (s q : Int) (key old val unt : ByteArray) (lim : Int) (w : World) : Calls Tryz.prog 74 #[.agg (Cmd9.mk 1 s q key old val unt lim).arr] w fun e w' => e = .returned (.bool (good9 ⟨1, s, q, key, old, val, unt, lim⟩)) ∧ Below w.heap.size w w' := by
  have HG : Hid (good9 ⟨1, s, q, key, old, val, unt, lim⟩ = (same9 ⟨1, s, q, key, old, val, unt, lim⟩ ⟨1, 0, 0, em9, em9, em9, em9, 0⟩)) := rfl
  have he := eqlC
  have hg := grdC
  have hmix : Tryz.prog.follows Departure.mixedOrders = true := by kernel_rfl
  have hBB : ∀ x y : Obj, Below w.heap.size w ((w.alloc x).alloc y) := fun x y => ((Below.refl _ _).alloc (Nat.le_refl _) x).alloc (by simp) y
  have k1 := fun w => rkey_any key w
  have k2 := fun w => rvalue_any val w
  have k3 := fun w => rvalue_any old w
  generalize good9 ⟨1, s, q, key, old, val, unt, lim⟩ = r at *
  generalize isKey9 key = b1 at *
  generalize isVal9 val = b2 at *
  generalize isVal9 old = b3 at *
  unfold Cmd9.arr
  dsimp only
  go_enter Tryz.func74, Tryz.ntmps74
  go_wp2
  all_goals
    go_ret
    refine ⟨?_, by first | exact hBB _ _ | exact below_drewN (hBB _ _) 1⟩
    clear he hg hmix hBB k1 k2 k3
    show Ending.returned (Value.bool _) = _
    rw [HG.out]
    first | done | rfl | (simp_all; done) | (simp_all; intros; exfalso; omega)

set_option maxRecDepth 100000 in
set_option maxHeartbeats 1500000 in
theorem rgood2 (s q : Int) (key old val unt : ByteArray) (lim : Int) (w : World) : Calls Tryz.prog 74 #[.agg (Cmd9.mk 2 s q key old val unt lim).arr] w fun e w' => e = .returned (.bool (good9 ⟨2, s, q, key, old, val, unt, lim⟩)) ∧ Below w.heap.size w w' := by
  have HG : Hid (good9 ⟨2, s, q, key, old, val, unt, lim⟩ = (decide (1 ≤ s) && same9 ⟨2, s, q, key, old, val, unt, lim⟩ ⟨2, s, 0, em9, em9, em9, em9, 0⟩)) := rfl
  have he := eqlC
  have hg := grdC
  have hmix : Tryz.prog.follows Departure.mixedOrders = true := by kernel_rfl
  have hBB : ∀ x y : Obj, Below w.heap.size w ((w.alloc x).alloc y) := fun x y => ((Below.refl _ _).alloc (Nat.le_refl _) x).alloc (by simp) y
  have k1 := fun w => rkey_any key w
  have k2 := fun w => rvalue_any val w
  have k3 := fun w => rvalue_any old w
  generalize good9 ⟨2, s, q, key, old, val, unt, lim⟩ = r at *
  generalize isKey9 key = b1 at *
  generalize isVal9 val = b2 at *
  generalize isVal9 old = b3 at *
  unfold Cmd9.arr
  dsimp only
  go_enter Tryz.func74, Tryz.ntmps74
  go_wp2
  all_goals
    go_ret
    refine ⟨?_, by first | exact hBB _ _ | exact below_drewN (hBB _ _) 1⟩
    clear he hg hmix hBB k1 k2 k3
    show Ending.returned (Value.bool _) = _
    rw [HG.out]
    first | done | rfl | (simp_all; done) | (simp_all; intros; exfalso; omega)

set_option maxRecDepth 100000 in
set_option maxHeartbeats 1500000 in
theorem rgood3 (s q : Int) (key old val unt : ByteArray) (lim : Int) (w : World) : Calls Tryz.prog 74 #[.agg (Cmd9.mk 3 s q key old val unt lim).arr] w fun e w' => e = .returned (.bool (good9 ⟨3, s, q, key, old, val, unt, lim⟩)) ∧ Below w.heap.size w w' := by
  have HG : Hid (good9 ⟨3, s, q, key, old, val, unt, lim⟩ = (isKey9 key && isVal9 val && asks9 ⟨3, s, q, key, old, val, unt, lim⟩ ⟨0, 0, 0, key, em9, val, em9, 0⟩)) := rfl
  have HA : Hid (asks9 ⟨3, s, q, key, old, val, unt, lim⟩ ⟨0, 0, 0, key, em9, val, em9, 0⟩ = (decide (1 ≤ s) && decide (1 ≤ q) && same9 ⟨3, s, q, key, old, val, unt, lim⟩ ⟨3, s, q, key, em9, val, em9, 0⟩)) := rfl
  have he := eqlC
  have hg := grdC
  have hmix : Tryz.prog.follows Departure.mixedOrders = true := by kernel_rfl
  have hBB : ∀ x y : Obj, Below w.heap.size w ((w.alloc x).alloc y) := fun x y => ((Below.refl _ _).alloc (Nat.le_refl _) x).alloc (by simp) y
  have k1 := fun w => rkey_any key w
  have k2 := fun w => rvalue_any val w
  have k3 := fun w => rvalue_any old w
  generalize good9 ⟨3, s, q, key, old, val, unt, lim⟩ = r at *
  generalize isKey9 key = b1 at *
  generalize isVal9 val = b2 at *
  generalize isVal9 old = b3 at *
  unfold Cmd9.arr
  dsimp only
  cases b1 with
  | false =>
    go_enter Tryz.func74, Tryz.ntmps74
    go_wp2_with fail
    refine same_mono (k1 _) ?_
    go_wp2
    all_goals
      go_ret
      refine ⟨?_, by first | exact hBB _ _ | exact below_drewN (hBB _ _) 1⟩
      clear he hg hmix hBB k1 k2 k3
      show Ending.returned (Value.bool _) = _
      rw [HG.out, HA.out]
      first | done | rfl | (simp_all; done) | (simp_all; intros; exfalso; omega)
  | true =>
    go_enter Tryz.func74, Tryz.ntmps74
    go_wp2_with fail
    refine same_mono (k1 _) ?_
    go_wp2_with fail
    refine same_mono (k2 _) ?_
    go_wp2
    all_goals
      go_ret
      refine ⟨?_, by first | exact hBB _ _ | exact below_drewN (hBB _ _) 1⟩
      clear he hg hmix hBB k1 k2 k3
      show Ending.returned (Value.bool _) = _
      rw [HG.out, HA.out]
      first | done | rfl | (simp_all; done) | (simp_all; intros; exfalso; omega)

set_option maxRecDepth 100000 in
set_option maxHeartbeats 1500000 in
theorem rgood4 (s q : Int) (key old val unt : ByteArray) (lim : Int) (w : World) : Calls Tryz.prog 74 #[.agg (Cmd9.mk 4 s q key old val unt lim).arr] w fun e w' => e = .returned (.bool (good9 ⟨4, s, q, key, old, val, unt, lim⟩)) ∧ Below w.heap.size w w' := by
  have HG : Hid (good9 ⟨4, s, q, key, old, val, unt, lim⟩ = (isKey9 key && asks9 ⟨4, s, q, key, old, val, unt, lim⟩ ⟨0, 0, 0, key, em9, em9, em9, 0⟩)) := rfl
  have HA : Hid (asks9 ⟨4, s, q, key, old, val, unt, lim⟩ ⟨0, 0, 0, key, em9, em9, em9, 0⟩ = (decide (1 ≤ s) && decide (1 ≤ q) && same9 ⟨4, s, q, key, old, val, unt, lim⟩ ⟨4, s, q, key, em9, em9, em9, 0⟩)) := rfl
  have he := eqlC
  have hg := grdC
  have hmix : Tryz.prog.follows Departure.mixedOrders = true := by kernel_rfl
  have hBB : ∀ x y : Obj, Below w.heap.size w ((w.alloc x).alloc y) := fun x y => ((Below.refl _ _).alloc (Nat.le_refl _) x).alloc (by simp) y
  have k1 := fun w => rkey_any key w
  have k2 := fun w => rvalue_any val w
  have k3 := fun w => rvalue_any old w
  generalize good9 ⟨4, s, q, key, old, val, unt, lim⟩ = r at *
  generalize isKey9 key = b1 at *
  generalize isVal9 val = b2 at *
  generalize isVal9 old = b3 at *
  unfold Cmd9.arr
  dsimp only
  go_enter Tryz.func74, Tryz.ntmps74
  go_wp2_with fail
  refine same_mono (k1 _) ?_
  go_wp2
  all_goals
    go_ret
    refine ⟨?_, by first | exact hBB _ _ | exact below_drewN (hBB _ _) 1⟩
    clear he hg hmix hBB k1 k2 k3
    show Ending.returned (Value.bool _) = _
    rw [HG.out, HA.out]
    first | done | rfl | (simp_all; done) | (simp_all; intros; exfalso; omega)

set_option maxRecDepth 100000 in
set_option maxHeartbeats 1500000 in
theorem rgood5 (s q : Int) (key old val unt : ByteArray) (lim : Int) (w : World) : Calls Tryz.prog 74 #[.agg (Cmd9.mk 5 s q key old val unt lim).arr] w fun e w' => e = .returned (.bool (good9 ⟨5, s, q, key, old, val, unt, lim⟩)) ∧ Below w.heap.size w w' := by
  have HG : Hid (good9 ⟨5, s, q, key, old, val, unt, lim⟩ = (isKey9 key && asks9 ⟨5, s, q, key, old, val, unt, lim⟩ ⟨0, 0, 0, key, em9, em9, em9, 0⟩)) := rfl
  have HA : Hid (asks9 ⟨5, s, q, key, old, val, unt, lim⟩ ⟨0, 0, 0, key, em9, em9, em9, 0⟩ = (decide (1 ≤ s) && decide (1 ≤ q) && same9 ⟨5, s, q, key, old, val, unt, lim⟩ ⟨5, s, q, key, em9, em9, em9, 0⟩)) := rfl
  have he := eqlC
  have hg := grdC
  have hmix : Tryz.prog.follows Departure.mixedOrders = true := by kernel_rfl
  have hBB : ∀ x y : Obj, Below w.heap.size w ((w.alloc x).alloc y) := fun x y => ((Below.refl _ _).alloc (Nat.le_refl _) x).alloc (by simp) y
  have k1 := fun w => rkey_any key w
  have k2 := fun w => rvalue_any val w
  have k3 := fun w => rvalue_any old w
  generalize good9 ⟨5, s, q, key, old, val, unt, lim⟩ = r at *
  generalize isKey9 key = b1 at *
  generalize isVal9 val = b2 at *
  generalize isVal9 old = b3 at *
  unfold Cmd9.arr
  dsimp only
  go_enter Tryz.func74, Tryz.ntmps74
  go_wp2_with fail
  refine same_mono (k1 _) ?_
  go_wp2
  all_goals
    go_ret
    refine ⟨?_, by first | exact hBB _ _ | exact below_drewN (hBB _ _) 1⟩
    clear he hg hmix hBB k1 k2 k3
    show Ending.returned (Value.bool _) = _
    rw [HG.out, HA.out]
    first | done | rfl | (simp_all; done) | (simp_all; intros; exfalso; omega)

set_option maxRecDepth 100000 in
set_option maxHeartbeats 1500000 in
theorem rgood6 (s q : Int) (key old val unt : ByteArray) (lim : Int) (w : World) : Calls Tryz.prog 74 #[.agg (Cmd9.mk 6 s q key old val unt lim).arr] w fun e w' => e = .returned (.bool (good9 ⟨6, s, q, key, old, val, unt, lim⟩)) ∧ Below w.heap.size w w' := by
  have HG : Hid (good9 ⟨6, s, q, key, old, val, unt, lim⟩ = (isKey9 key && isVal9 old && isVal9 val && asks9 ⟨6, s, q, key, old, val, unt, lim⟩ ⟨0, 0, 0, key, old, val, em9, 0⟩)) := rfl
  have HA : Hid (asks9 ⟨6, s, q, key, old, val, unt, lim⟩ ⟨0, 0, 0, key, old, val, em9, 0⟩ = (decide (1 ≤ s) && decide (1 ≤ q) && same9 ⟨6, s, q, key, old, val, unt, lim⟩ ⟨6, s, q, key, old, val, em9, 0⟩)) := rfl
  have he := eqlC
  have hg := grdC
  have hmix : Tryz.prog.follows Departure.mixedOrders = true := by kernel_rfl
  have hBB : ∀ x y : Obj, Below w.heap.size w ((w.alloc x).alloc y) := fun x y => ((Below.refl _ _).alloc (Nat.le_refl _) x).alloc (by simp) y
  have k1 := fun w => rkey_any key w
  have k2 := fun w => rvalue_any val w
  have k3 := fun w => rvalue_any old w
  generalize good9 ⟨6, s, q, key, old, val, unt, lim⟩ = r at *
  generalize isKey9 key = b1 at *
  generalize isVal9 val = b2 at *
  generalize isVal9 old = b3 at *
  unfold Cmd9.arr
  dsimp only
  cases b1 with
  | false =>
    go_enter Tryz.func74, Tryz.ntmps74
    go_wp2_with fail
    refine same_mono (k1 _) ?_
    go_wp2_with fail
    apply once_proved9
    case main =>
      intro key
      go_region_with (fail)
      all_goals exact key.out
    case proof =>
      go_wp2
      all_goals
        go_ret
        refine ⟨?_, by first | exact hBB _ _ | exact below_drewN (hBB _ _) 1⟩
        clear he hg hmix hBB k1 k2 k3
        show Ending.returned (Value.bool _) = _
        rw [HG.out, HA.out]
        first | done | rfl | (simp_all; done) | (simp_all; intros; exfalso; omega)
  | true =>
    cases b3 with
    | false =>
      go_enter Tryz.func74, Tryz.ntmps74
      go_wp2_with fail
      refine same_mono (k1 _) ?_
      go_wp2_with fail
      apply once_proved9
      case main =>
        intro key
        go_region_with (fail)
        all_goals exact key.out
      case proof =>
        go_wp2_with fail
        refine same_mono (k3 _) ?_
        go_wp2
        all_goals
          go_ret
          refine ⟨?_, by first | exact hBB _ _ | exact below_drewN (hBB _ _) 1⟩
          clear he hg hmix hBB k1 k2 k3
          show Ending.returned (Value.bool _) = _
          rw [HG.out, HA.out]
          first | done | rfl | (simp_all; done) | (simp_all; intros; exfalso; omega)
    | true =>
      go_enter Tryz.func74, Tryz.ntmps74
      go_wp2_with fail
      refine same_mono (k1 _) ?_
      go_wp2_with fail
      apply once_proved9
      case main =>
        intro key
        go_region_with (fail)
        all_goals exact key.out
      case proof =>
        go_wp2_with fail
        refine same_mono (k3 _) ?_
        go_wp2_with fail
        refine same_mono (k2 _) ?_
        go_wp2
        all_goals
          go_ret
          refine ⟨?_, by first | exact hBB _ _ | exact below_drewN (hBB _ _) 1⟩
          clear he hg hmix hBB k1 k2 k3
          show Ending.returned (Value.bool _) = _
          rw [HG.out, HA.out]
          first | done | rfl | (simp_all; done) | (simp_all; intros; exfalso; omega)

set_option maxRecDepth 100000 in
set_option maxHeartbeats 1500000 in
theorem rgood7 (s q : Int) (key old val unt : ByteArray) (lim : Int) (w : World) : Calls Tryz.prog 74 #[.agg (Cmd9.mk 7 s q key old val unt lim).arr] w fun e w' => e = .returned (.bool (good9 ⟨7, s, q, key, old, val, unt, lim⟩)) ∧ Below w.heap.size w w' := by
  have HG : Hid (good9 ⟨7, s, q, key, old, val, unt, lim⟩ = (isBnd9 key && isBnd9 unt && isLim9 lim && asks9 ⟨7, s, q, key, old, val, unt, lim⟩ ⟨0, 0, 0, key, em9, em9, unt, lim⟩)) := rfl
  have HA : Hid (asks9 ⟨7, s, q, key, old, val, unt, lim⟩ ⟨0, 0, 0, key, em9, em9, unt, lim⟩ = (decide (1 ≤ s) && decide (1 ≤ q) && same9 ⟨7, s, q, key, old, val, unt, lim⟩ ⟨7, s, q, key, em9, em9, unt, lim⟩)) := rfl
  have he := eqlC
  have hg := grdC
  have hmix : Tryz.prog.follows Departure.mixedOrders = true := by kernel_rfl
  have hBB : ∀ x y : Obj, Below w.heap.size w ((w.alloc x).alloc y) := fun x y => ((Below.refl _ _).alloc (Nat.le_refl _) x).alloc (by simp) y
  have k1 := fun w => rkey_any key w
  have k2 := fun w => rvalue_any val w
  have k3 := fun w => rvalue_any old w
  generalize good9 ⟨7, s, q, key, old, val, unt, lim⟩ = r at *
  generalize isKey9 key = b1 at *
  generalize isVal9 val = b2 at *
  generalize isVal9 old = b3 at *
  unfold Cmd9.arr
  dsimp only
  have HX : Hid (isBnd9 key = decide ((key.size : Int) ≤ 64) ∧ isBnd9 unt = decide ((unt.size : Int) ≤ 64) ∧ isLim9 lim = (decide (1 ≤ lim) && decide (lim ≤ 64))) := by
    refine ⟨?_, ?_, ?_⟩
    · unfold isBnd9; rw [decide_eq_decide]; omega
    · unfold isBnd9; rw [decide_eq_decide]; omega
    · unfold isLim9; rw [← Bool.decide_and]
  go_enter Tryz.func74, Tryz.ntmps74
  go_wp2_with fail
  refine same_mono (k1 _) ?_
  go_wp2_with fail
  apply once_proved9
  case main =>
    intro key
    go_region_with (fail)
    all_goals exact key.out
  case proof =>
    go_wp2
    all_goals
      go_ret
      refine ⟨?_, by first | exact hBB _ _ | exact below_drewN (hBB _ _) 1⟩
      clear he hg hmix hBB k1 k2 k3
      show Ending.returned (Value.bool _) = _
      rw [HG.out, HA.out, HX.out.1, HX.out.2.1, HX.out.2.2]
      first | done | rfl | (simp_all; done) | (simp_all; intros; exfalso; omega)

set_option maxRecDepth 100000 in
set_option maxHeartbeats 1500000 in
theorem rgood_any (c : Cmd9) (w : World) : Calls Tryz.prog 74 #[.agg c.arr] w fun e w' => e = .returned (.bool (good9 c)) ∧ Below w.heap.size w w' := by
  obtain ⟨k, s, q, key, old, val, unt, lim⟩ := c
  by_cases h1 : k = 1
  · subst h1; exact rgood1 s q key old val unt lim w
  by_cases h2 : k = 2
  · subst h2; exact rgood2 s q key old val unt lim w
  by_cases h3 : k = 3
  · subst h3; exact rgood3 s q key old val unt lim w
  by_cases h4 : k = 4
  · subst h4; exact rgood4 s q key old val unt lim w
  by_cases h5 : k = 5
  · subst h5; exact rgood5 s q key old val unt lim w
  by_cases h6 : k = 6
  · subst h6; exact rgood6 s q key old val unt lim w
  by_cases h7 : k = 7
  · subst h7; exact rgood7 s q key old val unt lim w
  have HG : Hid (good9 ⟨k, s, q, key, old, val, unt, lim⟩ = false) := by
    show _ = _
    unfold good9
    dsimp only
    rw [if_neg h1, if_neg h2, if_neg h3, if_neg (by omega), if_neg h6, if_neg h7]
  have hBB : ∀ x y : Obj, Below w.heap.size w ((w.alloc x).alloc y) := fun x y => ((Below.refl _ _).alloc (Nat.le_refl _) x).alloc (by simp) y
  have k1 := fun w => rkey_any key w
  generalize isKey9 key = b1 at *
  unfold Cmd9.arr
  dsimp only
  go_enter Tryz.func74, Tryz.ntmps74
  go_wp2_with fail
  refine same_mono (k1 _) ?_
  go_wp2
  all_goals
    go_ret
    rw [HG.out]
    exact ⟨rfl, hBB _ _⟩

end Go.Proofs.YtnbaoimjcaeeaaaGreat

/-
  Contracts: corbelref10.rises, GoodConf, Good; entry.Same, corbelref10.Same.
-/
namespace Go.Proofs.YtnbaoimjcaeeaaaGreat
open Go.RowKit Go.Shelf

set_option maxRecDepth 100000 in
set_option maxHeartbeats 1500000 in
theorem rrises_any (p : Option Addr) (n c : Nat) (xs : List Int) (w : World) (h : HasI w (.slice p n c) xs) (hl : xs.length ≤ 17592186044416) :
    Calls Tryz.prog 109 #[.slice p n c] w fun e w' => e = .returned (.bool (rises10 xs)) ∧ w' = w := by
  obtain ⟨hn, hc, -⟩ := h.len
  have HN : Hid (xs.length = n) := hn
  rw [hn] at hl
  have HX : Hid (HasI w (.slice p n c) xs) := h
  clear hn h
  go_enter Tryz.func109, Tryz.ntmps109
  go_wp2
  go_loopw [7] (fun s7 wr => ∃ j : Nat, j ≤ n ∧ s7 = .int .i64 (j : Nat) ∧ wr = w ∧ Hid (∀ i, i < j → okAt10 xs i = true)) (fun s7 _ => n - (intOf s7).toNat)
  case atStart => exact ⟨0, Nat.zero_le _, rfl, rfl, fun i hi => by omega⟩
  case round =>
    obtain ⟨j, hj, rfl, rfl, hok⟩ := hrel
    by_cases hlt : j < n
    · obtain ⟨b, o, hp, hb, hcell⟩ := HX.out.at hlt
      have HO : Hid (okAt10 xs j = true ↔ (1 ≤ xs.getD j 0 ∧ xs.getD j 0 ≤ 9) ∧ (j = 0 ∨ xs.getD (j - 1) 0 < xs.getD j 0)) := okAt10_iff xs j
      have HF : Hid (¬ ((1 ≤ xs.getD j 0 ∧ xs.getD j 0 ≤ 9) ∧ (j = 0 ∨ xs.getD (j - 1) 0 < xs.getD j 0)) → rises10 xs = false) := fun hno => rises10_no (i := j) (by rw [HN.out]; exact hlt) (by
        cases hk : okAt10 xs j with
        | false => rfl
        | true => exact absurd (HO.out.1 hk) hno)
      have HS : Hid (((1 ≤ xs.getD j 0 ∧ xs.getD j 0 ≤ 9) ∧ (j = 0 ∨ xs.getD (j - 1) 0 < xs.getD j 0)) → ∀ i, i < j + 1 → okAt10 xs i = true) := fun hyes i hi => by
        by_cases e : i = j
        · rw [e]; exact HO.out.2 hyes
        · exact hok.out i (by omega)
      clear HO hok
      cases j with
      | zero =>
        subst hp
        rw [Nat.add_zero] at hcell
        generalize xs.getD 0 0 = x at *
        by_cases h1 : x < 1
        · have HR : Hid (rises10 xs = false) := HF.out (by omega)
          go_wp2
          go_ret
          rw [HR.out]
          exact ⟨rfl, rfl⟩
        by_cases h9 : 9 < x
        · have HR : Hid (rises10 xs = false) := HF.out (by omega)
          go_wp2
          go_ret
          rw [HR.out]
          exact ⟨rfl, rfl⟩
        have HR : Hid (∀ i, i < 0 + 1 → okAt10 xs i = true) := HS.out ⟨by omega, .inl rfl⟩
        clear HF HS
        go_wp2
        go_roundw
        case rel => exact ⟨0 + 1, by omega, by go_num, by trivial, HR.out⟩
        case measure => simp only [intOf]; omega
      | succ k =>
        obtain ⟨b', o', hp', hb', hcell'⟩ := HX.out.at (j := k) (by omega)
        rw [hp] at hp'
        simp only [Option.some.injEq, Addr.mk.injEq, and_true] at hp'
        obtain ⟨rfl, rfl⟩ := hp'
        subst hp
        rw [Nat.add_sub_cancel] at HF HS
        generalize xs.getD (k + 1) 0 = x at *
        generalize xs.getD k 0 = y at *
        have e1 : ((k + 1 : Nat) : Int) - 1 = (k : Int) := by omega
        by_cases h1 : x < 1
        · have HR : Hid (rises10 xs = false) := HF.out (by omega)
          go_wp2
          go_ret
          rw [HR.out]
          exact ⟨rfl, rfl⟩
        by_cases h9 : 9 < x
        · have HR : Hid (rises10 xs = false) := HF.out (by omega)
          go_wp2
          go_ret
          rw [HR.out]
          exact ⟨rfl, rfl⟩
        by_cases hxy : x ≤ y
        · have HR : Hid (rises10 xs = false) := HF.out (by omega)
          go_wp2
          go_ret
          rw [HR.out]
          exact ⟨rfl, rfl⟩
        have HR : Hid (∀ i, i < k + 1 + 1 → okAt10 xs i = true) := HS.out ⟨by omega, .inr (by omega)⟩
        clear HF HS
        go_wp2
        go_roundw
        case rel => exact ⟨k + 1 + 1, by omega, by go_num, by trivial, HR.out⟩
        case measure => simp only [intOf]; omega
    · have HT : Hid (rises10 xs = true) := rises10_yes fun i hi => hok.out i (by rw [HN.out] at hi; omega)
      go_wp2
      go_ret
      rw [HT.out]
      exact ⟨rfl, rfl⟩

theorem goodF10_apart {c : Conf10} {i : Nat} (hi : i < c.vs.length) (h : hasI10 c.ls (c.vs.getD i 0) = true) : goodF10 c = false := by
  rw [goodF10_is]
  have : (c.vs.any fun x => hasI10 c.ls x) = true := by
    rw [List.any_eq_true]
    refine ⟨c.vs.getD i 0, ?_, h⟩
    rw [List.getD_eq_getElem?_getD, List.getElem?_eq_getElem hi]
    exact List.getElem_mem _
  rw [this]
  simp
theorem goodF10_all {c : Conf10} (h1 : rises10 c.vs = true) (h2 : rises10 c.ls = true) (h3 : c.vs.length ≠ 0) (h : ∀ i, i < c.vs.length → hasI10 c.ls (c.vs.getD i 0) = false) : goodF10 c = true := by
  rw [goodF10_is, h1, h2]
  have e1 : c.vs.isEmpty = false := by
    cases hv : c.vs with
    | nil => rw [hv] at h3; exact absurd rfl h3
    | cons => rfl
  have e2 : (c.vs.any fun x => hasI10 c.ls x) = false := by
    rw [List.any_eq_false]
    intro a ha
    obtain ⟨i, hi, rfl⟩ := List.getElem_of_mem ha
    have := h i hi
    rw [List.getD_eq_getElem?_getD, List.getElem?_eq_getElem hi] at this
    simpa using this
  rw [e1, e2]
  rfl

set_option maxRecDepth 100000 in
set_option maxHeartbeats 2000000 in
theorem rgoodConf_any (x : ConfV) (w : World) (h : FitsF w x) : Calls Tryz.prog 75 #[.agg x.arr] w fun e w' => e = .returned (.bool (goodF10 x.f)) ∧ Below w.heap.size w w' := by
  have HG : Hid (goodF10 x.f = (!x.f.vs.isEmpty && rises10 x.f.vs && rises10 x.f.ls && !(x.f.vs.any fun a => hasI10 x.f.ls a))) := goodF10_is x.f
  have hB1 : Below w.heap.size w (w.alloc (.cells x.arr 28)) := (Below.refl _ _).alloc (Nat.le_refl _) _
  have hbox : ConfAt (w.alloc (.cells x.arr 28)) w.heap.size x := heap_alloc_new w _
  have h1 := h.below hB1
  have k1 := rrises_any _ _ _ _ _ h1.u h1.lu
  have k2 := rrises_any _ _ _ _ _ h1.v h1.lv
  have hn := h.u.len.1
  have hm := h.v.len.1
  have HE : Hid (x.f.vs.isEmpty = decide (x.u.n = 0)) := by
    rw [Hid, ← hn]
    cases x.f.vs <;> simp
  have HY : Hid (∀ i, i < x.u.n → hasI10 x.f.ls (x.f.vs.getD i 0) = true → goodF10 x.f = false) := fun i hi h => goodF10_apart (by rw [hn]; exact hi) h
  have HA : Hid (rises10 x.f.vs = true → rises10 x.f.ls = true → x.u.n ≠ 0 → (∀ i, i < x.u.n → hasI10 x.f.ls (x.f.vs.getD i 0) = false) → goodF10 x.f = true) := fun a b c d => goodF10_all a b (by rw [hn]; exact c) fun i hi => d i (by rw [← hn]; exact hi)
  have HU : Hid (HasI (w.alloc (.cells x.arr 28)) (.slice x.u.p x.u.n x.u.c) x.f.vs) := h1.u
  have HV : Hid (HasI (w.alloc (.cells x.arr 28)) (.slice x.v.p x.v.n x.v.c) x.f.ls) := h1.v
  have hln := h.lu
  have hlm := h.lv
  have HM : Hid (x.f.ls.length = x.v.n) := hm
  rw [hn] at hln
  rw [hm] at hlm
  have hU := h1.u.len.2.1
  have hV := h1.v.len.2.1
  obtain ⟨⟨p, n, c⟩, ⟨q, m, d⟩, f⟩ := x
  unfold ConfV.arr at *
  dsimp only at *
  generalize hr1 : rises10 f.vs = r1 at *
  generalize hr2 : rises10 f.ls = r2 at *
  have hbz := hB1.size
  clear h h1 hn hm hr1 hr2
  cases r1 with
  | false =>
    have HF : Hid (goodF10 f = false) := by rw [Hid, HG.out]; simp
    clear HG HE HY HA HU HV
    go_enter Tryz.func75, Tryz.ntmps75
    go_wp2_with fail
    refine same_mono k1 ?_
    go_wp2
    go_ret
    rw [HF.out]
    exact ⟨rfl, hB1⟩
  | true =>
    cases r2 with
    | false =>
      have HF : Hid (goodF10 f = false) := by rw [Hid, HG.out]; simp
      clear HG HE HY HA HU HV
      go_enter Tryz.func75, Tryz.ntmps75
      go_wp2_with fail
      refine same_mono k1 ?_
      go_wp2_with fail
      refine same_mono k2 ?_
      go_wp2
      go_ret
      rw [HF.out]
      exact ⟨rfl, hB1⟩
    | true =>
      by_cases h0 : n = 0
      · have HF : Hid (goodF10 f = false) := by rw [Hid, HG.out, HE.out, decide_eq_true h0]; rfl
        subst h0
        clear HG HE HY HA HU HV
        go_enter Tryz.func75, Tryz.ntmps75
        go_wp2_with fail
        refine same_mono k1 ?_
        go_wp2_with fail
        refine same_mono k2 ?_
        go_wp2
        go_ret
        rw [HF.out]
        exact ⟨rfl, hB1⟩
      · have h00 : ((n : Int) == 0) = false := by simp; omega
        have HA2 : Hid ((∀ i, i < n → hasI10 f.ls (f.vs.getD i 0) = false) → goodF10 f = true) := HA.out rfl rfl h0
        clear HG HE HA
        go_enter Tryz.func75, Tryz.ntmps75
        go_wp2_with fail
        refine same_mono k1 ?_
        go_wp2_with fail
        refine same_mono k2 ?_
        go_wp2
        generalize w.alloc (.cells #[.slice p n c, .slice q m d] 28) = W1 at *
        obtain ⟨c0, c1⟩ := hbox.cells
        dsimp only at c0 c1
        have hlt := box_lt hbox
        generalize hbb : w.heap.size = bb at *
        have Hbb : Hid (w.heap.size = bb) := hbb
        clear hbb k1 k2 hbox
        go_loopw [26] (fun s26 wr => ∃ j : Nat, j ≤ n ∧ s26 = .int .i64 (j : Nat) ∧ wr = W1 ∧ Hid (∀ i, i < j → hasI10 f.ls (f.vs.getD i 0) = false)) (fun s26 _ => n - (intOf s26).toNat)
        case atStart => exact ⟨0, Nat.zero_le _, rfl, rfl, fun i hi => by omega⟩
        case round =>
          obtain ⟨j, hj, rfl, rfl, hok⟩ := hrel
          by_cases hjn : j < n
          · obtain ⟨b1, o1, rfl, hb1, hc1⟩ := HU.out.at hjn
            have HJ : Hid (hasI10 f.ls (f.vs.getD j 0) = true → goodF10 f = false) := HY.out j hjn
            have HK : Hid (hasI10 f.ls (f.vs.getD j 0) = false → ∀ i, i < j + 1 → hasI10 f.ls (f.vs.getD i 0) = false) := fun hh i hi => by
              by_cases e : i = j
              · rw [e]; exact hh
              · exact hok.out i (by omega)
            clear hok
            generalize f.vs.getD j 0 = a at *
            go_wp2
            go_loopw [33] (fun s33 wq => ∃ k : Nat, k ≤ m ∧ s33 = .int .i64 (k : Nat) ∧ wq = wr ∧ Hid (∀ i, i < k → a ≠ f.ls.getD i 0)) (fun s33 _ => m - (intOf s33).toNat)
            case atStart => exact ⟨0, Nat.zero_le _, rfl, rfl, fun i hi => by omega⟩
            case round =>
              obtain ⟨k, hk, rfl, rfl, hno⟩ := hrel
              by_cases hkm : k < m
              · obtain ⟨b2, o2, rfl, hb2, hc2⟩ := HV.out.at hkm
                by_cases hab : a = f.ls.getD k 0
                · have HF : Hid (goodF10 f = false) := HJ.out (hasI10_yes (by rw [HM.out]; exact hkm) hab)
                  have he : (a == f.ls.getD k 0) = true := by simpa using hab
                  clear hno hab
                  generalize f.ls.getD k 0 = b at *
                  go_wp2
                  go_ret
                  rw [HF.out]
                  exact ⟨rfl, by rw [Hbb.out]; exact hB1⟩
                · have HS : Hid (∀ i, i < k + 1 → a ≠ f.ls.getD i 0) := fun i hi => by
                    by_cases e : i = k
                    · rw [e]; exact hab
                    · exact hno.out i (by omega)
                  have he : (a == f.ls.getD k 0) = false := by simpa using hab
                  clear hno hab
                  generalize f.ls.getD k 0 = b at *
                  go_wp2
                  go_roundw
                  case rel => exact ⟨k + 1, by omega, by go_num, by trivial, HS.out⟩
                  case measure => simp only [intOf]; omega
              · have HS : Hid (∀ i, i < j + 1 → hasI10 f.ls (f.vs.getD i 0) = false) := HK.out (hasI10_no fun i hi => hno.out i (by rw [HM.out] at hi; omega))
                clear hno HK HJ
                go_wp2
                go_roundw
                case rel => exact ⟨j + 1, by omega, by go_num, by trivial, HS.out⟩
                case measure => simp only [intOf]; omega
          · have HF : Hid (goodF10 f = true) := HA2.out fun i hi => hok.out i (by omega)
            go_wp2
            go_ret
            rw [HF.out]
            exact ⟨rfl, by rw [Hbb.out]; exact hB1⟩

set_option maxRecDepth 100000 in
set_option maxHeartbeats 2000000 in
theorem rgoodE_any (x : EntV) (w : World) (hF : FitsE w x) : Calls Tryz.prog 31 #[.agg x.arr] w fun e w' => e = .returned (.bool (goodE10 x.e)) ∧ Below w.heap.size w w' := by
  have hb1 : Below w.heap.size w (w.alloc (.cells x.arr 30)) := (Below.refl _ _).alloc (Nat.le_refl _) _
  have hbox : EntAt (w.alloc (.cells x.arr 30)) w.heap.size x := heap_alloc_new w _
  have HG : Hid (goodE10 x.e = (decide (1 ≤ x.i) && decide (1 ≤ x.t) && (if x.k = 1 then emptyF10 x.f.f && same9 x.c zeroC9 else if x.k = 2 then emptyF10 x.f.f && good9 x.c else if x.k = 3 then goodF10 x.f.f && same9 x.c zeroC9 else false))) := rfl
  have hn := hF.f.u.len.1
  have hm := hF.f.v.len.1
  have hln := hF.f.lu
  have hlm := hF.f.lv
  rw [hn] at hln
  rw [hm] at hlm
  have HE : Hid (emptyF10 x.f.f = decide ((x.f.u.n : Int) + (x.f.v.n : Int) = 0)) := by
    rw [Hid, ← hn, ← hm]
    unfold emptyF10
    cases x.f.f.vs <;> cases x.f.f.ls <;> simp <;> omega
  have kc := fun W => rgood_any x.c W
  have kf := rgoodConf_any x.f _ (hF.f.below hb1)
  have he := fun W => eqlC x.c.k x.c.s x.c.q x.c.key x.c.old x.c.val x.c.unt x.c.lim 0 0 0 em9 em9 em9 em9 0 W
  have hg := grdC
  have HZ : Hid (same9 x.c zeroC9 = same9 ⟨x.c.k, x.c.s, x.c.q, x.c.key, x.c.old, x.c.val, x.c.unt, x.c.lim⟩ ⟨0, 0, 0, em9, em9, em9, em9, 0⟩) := rfl
  rw [HZ.out] at HG
  clear HZ hn hm
  generalize same9 ⟨x.c.k, x.c.s, x.c.q, x.c.key, x.c.old, x.c.val, x.c.unt, x.c.lim⟩ ⟨0, 0, 0, em9, em9, em9, em9, 0⟩ = rz at *
  generalize hre : emptyF10 x.f.f = re at *
  generalize good9 x.c = rc at *
  generalize goodF10 x.f.f = rf at *
  generalize hr : goodE10 x.e = r at *
  clear hr hF hre
  have hbz := hb1.size
  obtain ⟨i, t, k, ⟨ck, cs, cq, ckey, cold, cval, cunt, clim⟩, ⟨⟨p, n, c⟩, ⟨q, m, d⟩, f⟩⟩ := x
  unfold EntV.arr at *
  unfold ConfV.arr Cmd9.arr at *
  dsimp only at *
  by_cases hi : i < 1
  · have HF : Hid (r = false) := by rw [Hid, HG.out, decide_eq_false (by omega)]; rfl
    clear HG HE kc kf he hg
    go_enter Tryz.func31, Tryz.ntmps31
    go_wp2
    go_ret
    rw [HF.out]
    exact ⟨rfl, hb1⟩
  by_cases ht : t < 1
  · have HF : Hid (r = false) := by rw [Hid, HG.out, decide_eq_false (p := 1 ≤ t) (by omega), Bool.and_false]; rfl
    clear HG HE kc kf he hg
    go_enter Tryz.func31, Tryz.ntmps31
    go_wp2
    go_ret
    rw [HF.out]
    exact ⟨rfl, hb1⟩
  have HF : Hid (r = (if k = 1 then re && rz else if k = 2 then re && rc else if k = 3 then rf && rz else false)) := by
    rw [Hid, HG.out, decide_eq_true (p := 1 ≤ i) (by omega), decide_eq_true (p := 1 ≤ t) (by omega)]
    rfl
  clear HG
  have HB : (((n : Int) + (m : Int)) == 0) = re := by
    rw [HE.out]
    rfl
  have Hre : Hid (re = true ∨ re = false) := by cases re <;> simp [Hid]
  clear HE
  by_cases h1 : k = 1
  · have HF1 : Hid (r = (re && rz)) := by rw [Hid, HF.out, if_pos h1]
    clear HF kc kf
    subst h1
    cases re <;> cases rz
    all_goals
      go_enter Tryz.func31, Tryz.ntmps31
      go_wp2
      go_ret
      rw [HF1.out]
      exact ⟨rfl, hb1⟩
  have e1 : (k == 1) = false := by simpa using h1
  by_cases h2 : k = 2
  · have HF1 : Hid (r = (re && rc)) := by rw [Hid, HF.out, if_neg h1, if_pos h2]
    clear HF kf h1 e1
    subst h2
    cases re with
    | false =>
      go_enter Tryz.func31, Tryz.ntmps31
      go_wp2
      go_ret
      rw [HF1.out]
      exact ⟨rfl, hb1⟩
    | true =>
      go_enter Tryz.func31, Tryz.ntmps31
      go_wp2_with fail
      refine (kc _).mono ?_
      rintro e w3 ⟨rfl, hb3⟩
      have hb9 := hb1.trans (hb3.mono hbz)
      go_wp2
      go_ret
      rw [HF1.out]
      exact ⟨by simp, hb9⟩
  have e2 : (k == 2) = false := by simpa using h2
  by_cases h3 : k = 3
  · have HF1 : Hid (r = (rf && rz)) := by rw [Hid, HF.out, if_neg h1, if_neg h2, if_pos h3]
    clear HF kc h1 e1 h2 e2
    subst h3
    go_enter Tryz.func31, Tryz.ntmps31
    go_wp2_with fail
    generalize w.alloc (.cells #[.int .i64 i, .int .i64 t, .int .i64 3, .int .i64 ck, .int .i64 cs, .int .i64 cq, .string ckey, .string cold, .string cval, .string cunt, .int .i64 clim, .slice p n c, .slice q m d] 30) = W1 at *
    refine kf.mono ?_
    rintro e w3 ⟨rfl, hb3⟩
    have hb9 := hb1.trans (hb3.mono hbz)
    have hbox2 : EntAt w3 w.heap.size ⟨i, t, 3, ⟨ck, cs, cq, ckey, cold, cval, cunt, clim⟩, ⟨⟨p, n, c⟩, ⟨q, m, d⟩, f⟩⟩ := box_below hbox hb3
    obtain ⟨c0, c1, c2, c3, c4, c5, c6, c7, c8, c9, c10, c11, c12⟩ := hbox2.cells
    dsimp only at c0 c1 c2 c3 c4 c5 c6 c7 c8 c9 c10 c11 c12
    have hlt2 := box_lt hbox2
    clear hbox kf
    cases rf <;> cases rz
    all_goals
      go_wp2
      go_ret
      rw [HF1.out]
      exact ⟨rfl, hb9⟩
  have e3 : (k == 3) = false := by simpa using h3
  have HF1 : Hid (r = false) := by rw [Hid, HF.out, if_neg h1, if_neg h2, if_neg h3]
  clear HF kc kf h1 h2 h3
  go_enter Tryz.func31, Tryz.ntmps31
  go_wp2
  go_ret
  rw [HF1.out]
  exact ⟨rfl, hb1⟩

set_option maxRecDepth 100000 in
set_option maxHeartbeats 2000000 in
theorem rsameE_any (x y : EntV) (w : World) (hx : FitsF w x.f) (hy : FitsF w y.f) : Calls Tryz.prog 12 #[.agg x.arr, .agg y.arr] w fun e w' => e = .returned (.bool (sameE10 x.e y.e)) ∧ Below w.heap.size w w' := by
  have hb1 : Below w.heap.size w (w.alloc (.cells x.arr 30)) := (Below.refl _ _).alloc (Nat.le_refl _) _
  have hb2 := (Below.refl _ (w.alloc (.cells x.arr 30))).alloc (Nat.le_refl _) (.cells y.arr 30)
  have hB := hb1.trans (hb2.mono hb1.size)
  have hbz := hB.size
  have ks := rsameConf_any x.f y.f _ ((hx.below hb1).below hb2) ((hy.below hb1).below hb2)
  have HS : Hid (sameE10 x.e y.e = (decide (x.i = y.i) && decide (x.t = y.t) && decide (x.k = y.k) && same9 x.c y.c && sameF10 x.f.f y.f.f)) := rfl
  have he := fun W => eqlC x.c.k x.c.s x.c.q x.c.key x.c.old x.c.val x.c.unt x.c.lim y.c.k y.c.s y.c.q y.c.key y.c.old y.c.val y.c.unt y.c.lim W
  have hg := grdC
  have HZ : Hid (same9 x.c y.c = same9 ⟨x.c.k, x.c.s, x.c.q, x.c.key, x.c.old, x.c.val, x.c.unt, x.c.lim⟩ ⟨y.c.k, y.c.s, y.c.q, y.c.key, y.c.old, y.c.val, y.c.unt, y.c.lim⟩) := rfl
  rw [HZ.out] at HS
  clear HZ
  generalize same9 ⟨x.c.k, x.c.s, x.c.q, x.c.key, x.c.old, x.c.val, x.c.unt, x.c.lim⟩ ⟨y.c.k, y.c.s, y.c.q, y.c.key, y.c.old, y.c.val, y.c.unt, y.c.lim⟩ = rz at *
  generalize sameF10 x.f.f y.f.f = rf at *
  generalize hr : sameE10 x.e y.e = r at *
  clear hr hx hy hb1 hb2
  obtain ⟨i, t, k, ⟨ck, cs, cq, ckey, cold, cval, cunt, clim⟩, ⟨⟨p, n, c⟩, ⟨q, m, d⟩, f⟩⟩ := x
  obtain ⟨i', t', k', ⟨ck', cs', cq', ckey', cold', cval', cunt', clim'⟩, ⟨⟨p', n', c'⟩, ⟨q', m', d'⟩, f'⟩⟩ := y
  unfold EntV.arr at *
  unfold ConfV.arr at *
  dsimp only at *
  by_cases h1 : i = i'
  case neg =>
    have HF : Hid (r = false) := by rw [Hid, HS.out, decide_eq_false h1]; simp
    have e9 : (i == i') = false := by simpa using h1
    clear HS ks he hg
    go_enter Tryz.func12, Tryz.ntmps12
    go_wp2
    go_ret
    rw [HF.out]
    exact ⟨rfl, hB⟩
  subst h1
  by_cases h2 : t = t'
  case neg =>
    have HF : Hid (r = false) := by rw [Hid, HS.out, decide_eq_false h2]; simp
    have e9 : (t == t') = false := by simpa using h2
    clear HS ks he hg
    go_enter Tryz.func12, Tryz.ntmps12
    go_wp2
    go_ret
    rw [HF.out]
    exact ⟨rfl, hB⟩
  subst h2
  by_cases h3 : k = k'
  case neg =>
    have HF : Hid (r = false) := by rw [Hid, HS.out, decide_eq_false h3]; simp
    have e9 : (k == k') = false := by simpa using h3
    clear HS ks he hg
    go_enter Tryz.func12, Tryz.ntmps12
    go_wp2
    go_ret
    rw [HF.out]
    exact ⟨rfl, hB⟩
  subst h3
  have HF : Hid (r = (rz && rf)) := by rw [Hid, HS.out, decide_eq_true rfl, decide_eq_true rfl, decide_eq_true rfl]; rfl
  clear HS
  cases rz with
  | false =>
    clear ks
    go_enter Tryz.func12, Tryz.ntmps12
    go_wp2
    go_ret
    rw [HF.out]
    exact ⟨rfl, hB⟩
  | true =>
    go_enter Tryz.func12, Tryz.ntmps12
    go_wp2_with fail
    refine ks.mono ?_
    rintro e w3 ⟨rfl, hb3⟩
    have hb9 := hB.trans (hb3.mono hbz)
    go_wp2
    go_ret
    rw [HF.out]
    exact ⟨by simp, hb9⟩
end Go.Proofs.YtnbaoimjcaeeaaaGreat
