import Derived.Test.YtephoegcpjdglaaCmB
import Derived.Shelf.Abstract
import Derived.Test.YtephoegcpjdglaaLd
namespace Go.Proofs.Ytephoegcpjdglaa
open Go.RowKit Go.Lib Go.Shelf
attribute [local go_sem ↓] ldE_exec ldE_run stE_exec ldC_exec ldC_run stC_exec stC_run oc_int oc_bool oc_string oc_slice oc_pointer
set_option maxRecDepth 100000 in
set_option maxHeartbeats 1500000 in
theorem rule1_any (b : Nat) (c : Cmd9) (w : World) (h : CmdAt w b c) (hk : c.k = 1) : Calls Try.prog 82 #[.pointer (some ⟨b, 0, none⟩)] w fun e w' => e = .returned (.bool (good9 c)) ∧ Below w.heap.size w w' := by
  have HG : Hid (good9 c = same9 c ⟨1, 0, 0, em9, em9, em9, em9, 0⟩) := by
    show _ = _
    unfold good9
    rw [if_pos hk]
  obtain ⟨c0, c1, c2, c3, c4, c5, c6, c7⟩ := h.cells
  have hlt := h.lt
  have he := eqlC
  have hg := grdC
  obtain ⟨k, s, q, key, old, val, unt, lim⟩ := c
  dsimp only at *
  subst hk
  go_enter Try.func82, Try.ntmps82
  go_wp2
  go_ret
  rw [HG.out]
  exact ⟨rfl, Below.refl _ _⟩

set_option maxRecDepth 100000 in
set_option maxHeartbeats 1500000 in
theorem rule2_any (b : Nat) (c : Cmd9) (w : World) (h : CmdAt w b c) (hk : c.k = 2) : Calls Try.prog 83 #[.pointer (some ⟨b, 0, none⟩)] w fun e w' => e = .returned (.bool (good9 c)) ∧ Below w.heap.size w w' := by
  have HG : Hid (good9 c = (decide (1 ≤ c.s) && same9 c ⟨c.k, c.s, 0, em9, em9, em9, em9, 0⟩)) := by
    show _ = _
    unfold good9
    rw [if_neg (by omega), if_pos hk]
  obtain ⟨c0, c1, c2, c3, c4, c5, c6, c7⟩ := h.cells
  have hlt := h.lt
  have he := eqlC
  have hg := grdC
  obtain ⟨k, s, q, key, old, val, unt, lim⟩ := c
  dsimp only at *
  subst hk
  by_cases h1 : 1 ≤ s
  · have HB : Hid (good9 ⟨2, s, q, key, old, val, unt, lim⟩ = same9 ⟨2, s, q, key, old, val, unt, lim⟩ ⟨2, s, 0, em9, em9, em9, em9, 0⟩) := by
      show _ = _
      rw [HG.out, decide_eq_true h1]
      rfl
    clear HG
    go_enter Try.func83, Try.ntmps83
    go_wp2
    go_ret
    rw [HB.out]
    exact ⟨rfl, Below.refl _ _⟩
  · have HB : Hid (good9 ⟨2, s, q, key, old, val, unt, lim⟩ = false) := by
      show _ = _
      rw [HG.out, decide_eq_false h1]
      rfl
    clear HG
    go_enter Try.func83, Try.ntmps83
    go_wp2
    go_ret
    rw [HB.out]
    exact ⟨rfl, Below.refl _ _⟩

set_option maxRecDepth 100000 in
set_option maxHeartbeats 1500000 in
theorem rule3_any (b : Nat) (c : Cmd9) (w : World) (h : CmdAt w b c) (hk : c.k = 3) : Calls Try.prog 84 #[.pointer (some ⟨b, 0, none⟩)] w fun e w' => e = .returned (.bool (good9 c)) ∧ Below w.heap.size w w' := by
  have HG : Hid (good9 c = (isKey9 c.key && isVal9 c.val && asks9 c ⟨0, 0, 0, c.key, em9, c.val, em9, 0⟩)) := by
    show _ = _
    unfold good9
    rw [if_neg (by omega), if_neg (by omega), if_pos hk]
  obtain ⟨c0, c1, c2, c3, c4, c5, c6, c7⟩ := h.cells
  have hlt := h.lt
  have k1 := isKey_any c.key w
  have k2 := isValue_any c.val w
  have k9 := asks_any c ⟨0, 0, 0, c.key, em9, c.val, em9, 0⟩ w
  unfold Cmd9.arr at k9
  generalize hr : good9 c = r at *
  clear hr hk
  generalize isKey9 c.key = b1 at *
  generalize isVal9 c.val = b2 at *
  generalize asks9 c _ = b9 at *
  obtain ⟨k, s, q, key, old, val, unt, lim⟩ := c
  dsimp only at *
  cases b1 with
  | false =>
    go_enter Try.func84, Try.ntmps84
    go_wp2_with fail
    refine same_mono k1 ?_
    go_wp2
    go_ret
    rw [HG.out]
    exact ⟨rfl, Below.refl _ _⟩
  | true =>
    cases b2 with
    | false =>
      go_enter Try.func84, Try.ntmps84
      go_wp2_with fail
      refine same_mono k1 ?_
      go_wp2_with fail
      refine same_mono k2 ?_
      go_wp2
      go_ret
      rw [HG.out]
      exact ⟨rfl, Below.refl _ _⟩
    | true =>
      go_enter Try.func84, Try.ntmps84
      go_wp2_with fail
      refine same_mono k1 ?_
      go_wp2_with fail
      refine same_mono k2 ?_
      go_wp2_with fail
      refine k9.mono ?_
      rintro e w1 ⟨rfl, hb1⟩
      go_wp2
      go_ret
      rw [HG.out]
      exact ⟨rfl, hb1⟩

set_option maxRecDepth 100000 in
set_option maxHeartbeats 1500000 in
theorem rule4_any (b : Nat) (c : Cmd9) (w : World) (h : CmdAt w b c) (hk : c.k = 4 ∨ c.k = 5) : Calls Try.prog 88 #[.pointer (some ⟨b, 0, none⟩)] w fun e w' => e = .returned (.bool (good9 c)) ∧ Below w.heap.size w w' := by
  have HG : Hid (good9 c = (isKey9 c.key && asks9 c ⟨0, 0, 0, c.key, em9, em9, em9, 0⟩)) := by
    show _ = _
    unfold good9
    rw [if_neg (by omega), if_neg (by omega), if_neg (by omega), if_pos hk]
  obtain ⟨c0, c1, c2, c3, c4, c5, c6, c7⟩ := h.cells
  have hlt := h.lt
  have k1 := isKey_any c.key w
  have k9 := asks_any c ⟨0, 0, 0, c.key, em9, em9, em9, 0⟩ w
  unfold Cmd9.arr at k9
  generalize hr : good9 c = r at *
  clear hr hk
  generalize isKey9 c.key = b1 at *
  generalize asks9 c _ = b9 at *
  obtain ⟨k, s, q, key, old, val, unt, lim⟩ := c
  dsimp only at *
  cases b1 with
  | false =>
    go_enter Try.func88, Try.ntmps88
    go_wp2_with fail
    refine same_mono k1 ?_
    go_wp2
    go_ret
    rw [HG.out]
    exact ⟨rfl, Below.refl _ _⟩
  | true =>
    go_enter Try.func88, Try.ntmps88
    go_wp2_with fail
    refine same_mono k1 ?_
    go_wp2_with fail
    refine k9.mono ?_
    rintro e w1 ⟨rfl, hb1⟩
    go_wp2
    go_ret
    rw [HG.out]
    exact ⟨rfl, hb1⟩

set_option maxRecDepth 100000 in
set_option maxHeartbeats 1500000 in
theorem rule5_any (b : Nat) (c : Cmd9) (w : World) (h : CmdAt w b c) (hk : c.k = 6) : Calls Try.prog 89 #[.pointer (some ⟨b, 0, none⟩)] w fun e w' => e = .returned (.bool (good9 c)) ∧ Below w.heap.size w w' := by
  have HG : Hid (good9 c = (isKey9 c.key && isVal9 c.old && isVal9 c.val && asks9 c ⟨0, 0, 0, c.key, c.old, c.val, em9, 0⟩)) := by
    show _ = _
    unfold good9
    rw [if_neg (by omega), if_neg (by omega), if_neg (by omega), if_neg (by omega), if_pos hk]
  obtain ⟨c0, c1, c2, c3, c4, c5, c6, c7⟩ := h.cells
  have hlt := h.lt
  have k1 := isKey_any c.key w
  have k2 := isValue_any c.old w
  have k3 := isValue_any c.val w
  have k9 := asks_any c ⟨0, 0, 0, c.key, c.old, c.val, em9, 0⟩ w
  unfold Cmd9.arr at k9
  generalize hr : good9 c = r at *
  clear hr hk
  generalize isKey9 c.key = b1 at *
  generalize isVal9 c.old = b2 at *
  generalize isVal9 c.val = b3 at *
  generalize asks9 c _ = b9 at *
  obtain ⟨k, s, q, key, old, val, unt, lim⟩ := c
  dsimp only at *
  cases b1 with
  | false =>
    go_enter Try.func89, Try.ntmps89
    go_wp2_with fail
    refine same_mono k1 ?_
    go_wp2
    go_ret
    rw [HG.out]
    exact ⟨rfl, Below.refl _ _⟩
  | true =>
    cases b2 with
    | false =>
      go_enter Try.func89, Try.ntmps89
      go_wp2_with fail
      refine same_mono k1 ?_
      go_wp2_with fail
      refine same_mono k2 ?_
      go_wp2
      go_ret
      rw [HG.out]
      exact ⟨rfl, Below.refl _ _⟩
    | true =>
      cases b3 with
      | false =>
        go_enter Try.func89, Try.ntmps89
        go_wp2_with fail
        refine same_mono k1 ?_
        go_wp2_with fail
        refine same_mono k2 ?_
        go_wp2_with fail
        refine same_mono k3 ?_
        go_wp2
        go_ret
        rw [HG.out]
        exact ⟨rfl, Below.refl _ _⟩
      | true =>
        go_enter Try.func89, Try.ntmps89
        go_wp2_with fail
        refine same_mono k1 ?_
        go_wp2_with fail
        refine same_mono k2 ?_
        go_wp2_with fail
        refine same_mono k3 ?_
        go_wp2_with fail
        refine k9.mono ?_
        rintro e w1 ⟨rfl, hb1⟩
        go_wp2
        go_ret
        rw [HG.out]
        exact ⟨rfl, hb1⟩

set_option maxRecDepth 100000 in
set_option maxHeartbeats 1500000 in
theorem rule6_any (b : Nat) (c : Cmd9) (w : World) (h : CmdAt w b c) (hk : c.k = 7) : Calls Try.prog 90 #[.pointer (some ⟨b, 0, none⟩)] w fun e w' => e = .returned (.bool (good9 c)) ∧ Below w.heap.size w w' := by
  have HG : Hid (good9 c = (isBnd9 c.key && isBnd9 c.unt && isLim9 c.lim && asks9 c ⟨0, 0, 0, c.key, em9, em9, c.unt, c.lim⟩)) := by
    show _ = _
    unfold good9
    rw [if_neg (by omega), if_neg (by omega), if_neg (by omega), if_neg (by omega), if_neg (by omega), if_pos hk]
  obtain ⟨c0, c1, c2, c3, c4, c5, c6, c7⟩ := h.cells
  have hlt := h.lt
  have k1 := isBound_any c.key w
  have k2 := isBound_any c.unt w
  have k3 := isLimit_any c.lim w
  have k9 := asks_any c ⟨0, 0, 0, c.key, em9, em9, c.unt, c.lim⟩ w
  unfold Cmd9.arr at k9
  generalize hr : good9 c = r at *
  clear hr hk
  generalize isBnd9 c.key = b1 at *
  generalize isBnd9 c.unt = b2 at *
  generalize isLim9 c.lim = b3 at *
  generalize asks9 c _ = b9 at *
  obtain ⟨k, s, q, key, old, val, unt, lim⟩ := c
  dsimp only at *
  cases b1 with
  | false =>
    go_enter Try.func90, Try.ntmps90
    go_wp2_with fail
    refine same_mono k1 ?_
    go_wp2
    go_ret
    rw [HG.out]
    exact ⟨rfl, Below.refl _ _⟩
  | true =>
    cases b2 with
    | false =>
      go_enter Try.func90, Try.ntmps90
      go_wp2_with fail
      refine same_mono k1 ?_
      go_wp2_with fail
      refine same_mono k2 ?_
      go_wp2
      go_ret
      rw [HG.out]
      exact ⟨rfl, Below.refl _ _⟩
    | true =>
      cases b3 with
      | false =>
        go_enter Try.func90, Try.ntmps90
        go_wp2_with fail
        refine same_mono k1 ?_
        go_wp2_with fail
        refine same_mono k2 ?_
        go_wp2_with fail
        refine same_mono k3 ?_
        go_wp2
        go_ret
        rw [HG.out]
        exact ⟨rfl, Below.refl _ _⟩
      | true =>
        go_enter Try.func90, Try.ntmps90
        go_wp2_with fail
        refine same_mono k1 ?_
        go_wp2_with fail
        refine same_mono k2 ?_
        go_wp2_with fail
        refine same_mono k3 ?_
        go_wp2_with fail
        refine k9.mono ?_
        rintro e w1 ⟨rfl, hb1⟩
        go_wp2
        go_ret
        rw [HG.out]
        exact ⟨rfl, hb1⟩

set_option maxRecDepth 100000 in
theorem rule7_any (c : Cmd9) (w : World) (hk : c.k ≠ 1 ∧ c.k ≠ 2 ∧ c.k ≠ 3 ∧ ¬ (c.k = 4 ∨ c.k = 5) ∧ c.k ≠ 6 ∧ c.k ≠ 7) : Calls Try.prog 93 #[] w fun e w' => e = .returned (.bool (good9 c)) ∧ Below w.heap.size w w' := by
  have HG : Hid (good9 c = false) := by
    show _ = _
    unfold good9
    rw [if_neg hk.1, if_neg hk.2.1, if_neg hk.2.2.1, if_neg hk.2.2.2.1, if_neg hk.2.2.2.2.1, if_neg hk.2.2.2.2.2]
  go_enter Try.func93, Try.ntmps93
  go_wp2
  go_ret
  rw [HG.out]
  exact ⟨rfl, Below.refl _ _⟩

def Tells9 (w : World) (c : Cmd9) (v : Value) : Prop :=
  ∃ (f : FuncId) (cap : Array Value), v = .func (.func f) #[] cap ∧ (∀ args w, (callFunc f args).run Try.prog w = .ok (.enter f args) w) ∧ ∀ w', Below w.heap.size w w' → Calls Try.prog f cap w' fun e w'' => e = .returned (.bool (good9 c)) ∧ Below w'.heap.size w' w''

set_option maxRecDepth 100000 in
set_option maxHeartbeats 1500000 in
theorem rule_any (c : Cmd9) (w : World) : Calls Try.prog 76 #[.agg c.arr] w fun e w' => ∃ v, e = .returned v ∧ Tells9 w' c v ∧ Below w.heap.size w w' := by
  have hB : Below w.heap.size w (w.alloc (.cells c.arr 46)) := (Below.refl _ _).alloc (Nat.le_refl _) _
  have HA : Hid (CmdAt (w.alloc (.cells c.arr 46)) w.heap.size c) := CmdAt.new w c
  obtain ⟨c0, -⟩ := HA.out.cells
  have hmf : ∀ (fn : Fn) (first cap : Array Value) (w : World), (Instr.makeFunc fn first cap).run Try.prog w = .ok (.func fn first cap) w := fun _ _ _ _ => rfl
  have hz : (w.alloc (.cells c.arr 46)).heap.size = w.heap.size + 1 := by simp
  obtain ⟨k, s, q, key, old, val, unt, lim⟩ := c
  unfold Cmd9.arr at *
  dsimp only at *
  by_cases h1 : k = 1
  · subst h1
    go_enter Try.func76, Try.ntmps76
    go_wp2
    go_ret
    exact ⟨_, rfl, ⟨82, #[.pointer (some ⟨w.heap.size, 0, none⟩)], rfl, enters_of Try.func82 (by kernel_rfl) rfl, fun w' hb => rule1_any _ _ _ (HA.out.below hb) rfl⟩, hB⟩
  by_cases h2 : k = 2
  · subst h2
    go_enter Try.func76, Try.ntmps76
    go_wp2
    go_ret
    exact ⟨_, rfl, ⟨83, #[.pointer (some ⟨w.heap.size, 0, none⟩)], rfl, enters_of Try.func83 (by kernel_rfl) rfl, fun w' hb => rule2_any _ _ _ (HA.out.below hb) rfl⟩, hB⟩
  by_cases h3 : k = 3
  · subst h3
    go_enter Try.func76, Try.ntmps76
    go_wp2
    go_ret
    exact ⟨_, rfl, ⟨84, #[.pointer (some ⟨w.heap.size, 0, none⟩)], rfl, enters_of Try.func84 (by kernel_rfl) rfl, fun w' hb => rule3_any _ _ _ (HA.out.below hb) rfl⟩, hB⟩
  by_cases h4 : k = 4
  · subst h4
    go_enter Try.func76, Try.ntmps76
    go_wp2
    go_ret
    exact ⟨_, rfl, ⟨88, #[.pointer (some ⟨w.heap.size, 0, none⟩)], rfl, enters_of Try.func88 (by kernel_rfl) rfl, fun w' hb => rule4_any _ _ _ (HA.out.below hb) (.inl rfl)⟩, hB⟩
  by_cases h5 : k = 5
  · subst h5
    go_enter Try.func76, Try.ntmps76
    go_wp2
    go_ret
    exact ⟨_, rfl, ⟨88, #[.pointer (some ⟨w.heap.size, 0, none⟩)], rfl, enters_of Try.func88 (by kernel_rfl) rfl, fun w' hb => rule4_any _ _ _ (HA.out.below hb) (.inr rfl)⟩, hB⟩
  by_cases h6 : k = 6
  · subst h6
    go_enter Try.func76, Try.ntmps76
    go_wp2
    go_ret
    exact ⟨_, rfl, ⟨89, #[.pointer (some ⟨w.heap.size, 0, none⟩)], rfl, enters_of Try.func89 (by kernel_rfl) rfl, fun w' hb => rule5_any _ _ _ (HA.out.below hb) rfl⟩, hB⟩
  by_cases h7 : k = 7
  · subst h7
    go_enter Try.func76, Try.ntmps76
    go_wp2
    go_ret
    exact ⟨_, rfl, ⟨90, #[.pointer (some ⟨w.heap.size, 0, none⟩)], rfl, enters_of Try.func90 (by kernel_rfl) rfl, fun w' hb => rule6_any _ _ _ (HA.out.below hb) rfl⟩, hB⟩
  have H7 : Hid (k ≠ 1 ∧ k ≠ 2 ∧ k ≠ 3 ∧ ¬ (k = 4 ∨ k = 5) ∧ k ≠ 6 ∧ k ≠ 7) := ⟨h1, h2, h3, by omega, h6, h7⟩
  go_enter Try.func76, Try.ntmps76
  go_wp2
  go_ret
  exact ⟨_, rfl, ⟨93, #[], rfl, enters_of Try.func93 (by kernel_rfl) rfl, fun w' hb => rule7_any _ _ H7.out⟩, hB⟩

set_option maxRecDepth 100000 in
set_option maxHeartbeats 1500000 in
theorem good_any (c : Cmd9) (w : World) : Calls Try.prog 69 #[.agg c.arr] w fun e w' => e = .returned (.bool (good9 c)) ∧ Below w.heap.size w w' := by
  have hB : Below w.heap.size w (w.alloc (.cells c.arr 46)) := (Below.refl _ _).alloc (Nat.le_refl _) _
  have hr := rule_any c (w.alloc (.cells c.arr 46))
  generalize hG : good9 c = r at *
  unfold Tells9 at hr
  rw [hG] at hr
  clear hG
  obtain ⟨k, s, q, key, old, val, unt, lim⟩ := c
  unfold Cmd9.arr at *
  dsimp only at *
  go_enter Try.func69, Try.ntmps69
  go_wp2_with fail
  generalize w.alloc (.cells #[.int .i64 k, .int .i64 s, .int .i64 q, .string key, .string old, .string val, .string unt, .int .i64 lim] 46) = W at *
  refine hr.mono ?_
  rintro e w1 ⟨v, rfl, ⟨f, cap, rfl, eg, hf⟩, hb1⟩
  have hz := hB.size
  have hf1 := hf w1 (Below.refl _ _)
  clear hr hf
  go_wp2_with fail
  refine hf1.mono ?_
  rintro e w2 ⟨rfl, hb2⟩
  have hb1z := hb1.size
  have hB2 : Below w.heap.size w w2 := (hB.trans (hb1.mono hz)).trans (hb2.mono (by omega))
  go_wp2
  go_ret
  exact ⟨rfl, hB2⟩
end Go.Proofs.Ytephoegcpjdglaa

namespace Go.Proofs.Ytephoegcpjdglaa
open Go.RowKit Go.Lib
attribute [local go_sem ↓] ldE_exec ldE_run stE_exec ldC_exec ldC_run stC_exec stC_run oc_int oc_bool oc_string oc_slice oc_pointer
set_option maxRecDepth 100000 in
theorem rkey_any (s : ByteArray) (w : World) : Calls Try.prog 79 #[.string s] w fun e w' => e = .returned (.bool (isKey9 s)) ∧ w' = w := by
  have HK : Hid (isKey9 s = (decide ((1 : Int) ≤ (s.size : Int)) && decide ((s.size : Int) ≤ 64))) := by
    show _ = _
    unfold isKey9
    rw [← Bool.decide_and, decide_eq_decide]
    omega
  by_cases h1 : 1 ≤ s.size
  all_goals
    go_enter Try.func79, Try.ntmps79
    go_wp2
    go_ret
    rw [HK.out]
    first | rw [decide_eq_true (show (1 : Int) ≤ (s.size : Int) by omega)] | rw [decide_eq_false (show ¬ (1 : Int) ≤ (s.size : Int) by omega)]
    exact ⟨rfl, rfl⟩

set_option maxRecDepth 100000 in
theorem rvalue_any (s : ByteArray) (w : World) : Calls Try.prog 80 #[.string s] w fun e w' => e = .returned (.bool (isVal9 s)) ∧ w' = w := by
  have HK : Hid (isVal9 s = decide ((s.size : Int) ≤ 256)) := by
    show _ = _
    unfold isVal9
    rw [decide_eq_decide]
    omega
  go_enter Try.func80, Try.ntmps80
  go_wp2
  go_ret
  rw [HK.out]
  exact ⟨rfl, rfl⟩

set_option maxRecDepth 100000 in
set_option maxHeartbeats 1500000 in
theorem rgood1 (s q : Int) (key old val unt : ByteArray) (lim : Int) (w : World) : Calls Try.prog 71 #[.agg (Cmd9.mk 1 s q key old val unt lim).arr] w fun e w' => e = .returned (.bool (good9 ⟨1, s, q, key, old, val, unt, lim⟩)) ∧ Below w.heap.size w w' := by
  have HG : Hid (good9 ⟨1, s, q, key, old, val, unt, lim⟩ = (same9 ⟨1, s, q, key, old, val, unt, lim⟩ ⟨1, 0, 0, em9, em9, em9, em9, 0⟩)) := rfl
  have he := eqlC
  have hg := grdC
  have hmix : Try.prog.follows Departure.mixedOrders = true := by kernel_rfl
  have hBB : ∀ x y : Obj, Below w.heap.size w ((w.alloc x).alloc y) := fun x y => ((Below.refl _ _).alloc (Nat.le_refl _) x).alloc (by simp) y
  have k1 := fun w => rkey_any key w
  have k2 := fun w => rvalue_any val w
  have k3 := fun w => rvalue_any old w
  generalize good9 ⟨1, s, q, key, old, val, unt, lim⟩ = r at *
  generalize isKey9 key = b1 at *
  generalize isVal9 val = b2 at *
  generalize isVal9 old = b3 at *
  unfold Cmd9.arr
  dsimp only
  go_enter Try.func71, Try.ntmps71
  go_wp2
  all_goals
    go_ret
    refine ⟨?_, by first | exact hBB _ _ | exact below_drewN (hBB _ _) 1⟩
    clear he hg hmix hBB k1 k2 k3
    show Ending.returned (Value.bool _) = _
    rw [HG.out]
    first | done | rfl | (simp_all; done) | (simp_all; intros; exfalso; omega)

set_option maxRecDepth 100000 in
set_option maxHeartbeats 1500000 in
theorem rgood2 (s q : Int) (key old val unt : ByteArray) (lim : Int) (w : World) : Calls Try.prog 71 #[.agg (Cmd9.mk 2 s q key old val unt lim).arr] w fun e w' => e = .returned (.bool (good9 ⟨2, s, q, key, old, val, unt, lim⟩)) ∧ Below w.heap.size w w' := by
  have HG : Hid (good9 ⟨2, s, q, key, old, val, unt, lim⟩ = (decide (1 ≤ s) && same9 ⟨2, s, q, key, old, val, unt, lim⟩ ⟨2, s, 0, em9, em9, em9, em9, 0⟩)) := rfl
  have he := eqlC
  have hg := grdC
  have hmix : Try.prog.follows Departure.mixedOrders = true := by kernel_rfl
  have hBB : ∀ x y : Obj, Below w.heap.size w ((w.alloc x).alloc y) := fun x y => ((Below.refl _ _).alloc (Nat.le_refl _) x).alloc (by simp) y
  have k1 := fun w => rkey_any key w
  have k2 := fun w => rvalue_any val w
  have k3 := fun w => rvalue_any old w
  generalize good9 ⟨2, s, q, key, old, val, unt, lim⟩ = r at *
  generalize isKey9 key = b1 at *
  generalize isVal9 val = b2 at *
  generalize isVal9 old = b3 at *
  unfold Cmd9.arr
  dsimp only
  go_enter Try.func71, Try.ntmps71
  go_wp2
  all_goals
    go_ret
    refine ⟨?_, by first | exact hBB _ _ | exact below_drewN (hBB _ _) 1⟩
    clear he hg hmix hBB k1 k2 k3
    show Ending.returned (Value.bool _) = _
    rw [HG.out]
    first | done | rfl | (simp_all; done) | (simp_all; intros; exfalso; omega)

set_option maxRecDepth 100000 in
set_option maxHeartbeats 1500000 in
theorem rgood3 (s q : Int) (key old val unt : ByteArray) (lim : Int) (w : World) : Calls Try.prog 71 #[.agg (Cmd9.mk 3 s q key old val unt lim).arr] w fun e w' => e = .returned (.bool (good9 ⟨3, s, q, key, old, val, unt, lim⟩)) ∧ Below w.heap.size w w' := by
  have HG : Hid (good9 ⟨3, s, q, key, old, val, unt, lim⟩ = (isKey9 key && isVal9 val && asks9 ⟨3, s, q, key, old, val, unt, lim⟩ ⟨0, 0, 0, key, em9, val, em9, 0⟩)) := rfl
  have HA : Hid (asks9 ⟨3, s, q, key, old, val, unt, lim⟩ ⟨0, 0, 0, key, em9, val, em9, 0⟩ = (decide (1 ≤ s) && decide (1 ≤ q) && same9 ⟨3, s, q, key, old, val, unt, lim⟩ ⟨3, s, q, key, em9, val, em9, 0⟩)) := rfl
  have he := eqlC
  have hg := grdC
  have hmix : Try.prog.follows Departure.mixedOrders = true := by kernel_rfl
  have hBB : ∀ x y : Obj, Below w.heap.size w ((w.alloc x).alloc y) := fun x y => ((Below.refl _ _).alloc (Nat.le_refl _) x).alloc (by simp) y
  have k1 := fun w => rkey_any key w
  have k2 := fun w => rvalue_any val w
  have k3 := fun w => rvalue_any old w
  generalize good9 ⟨3, s, q, key, old, val, unt, lim⟩ = r at *
  generalize isKey9 key = b1 at *
  generalize isVal9 val = b2 at *
  generalize isVal9 old = b3 at *
  unfold Cmd9.arr
  dsimp only
  cases b1 with
  | false =>
    go_enter Try.func71, Try.ntmps71
    go_wp2_with fail
    refine same_mono (k1 _) ?_
    go_wp2
    all_goals
      go_ret
      refine ⟨?_, by first | exact hBB _ _ | exact below_drewN (hBB _ _) 1⟩
      clear he hg hmix hBB k1 k2 k3
      show Ending.returned (Value.bool _) = _
      rw [HG.out, HA.out]
      first | done | rfl | (simp_all; done) | (simp_all; intros; exfalso; omega)
  | true =>
    go_enter Try.func71, Try.ntmps71
    go_wp2_with fail
    refine same_mono (k1 _) ?_
    go_wp2_with fail
    refine same_mono (k2 _) ?_
    go_wp2
    all_goals
      go_ret
      refine ⟨?_, by first | exact hBB _ _ | exact below_drewN (hBB _ _) 1⟩
      clear he hg hmix hBB k1 k2 k3
      show Ending.returned (Value.bool _) = _
      rw [HG.out, HA.out]
      first | done | rfl | (simp_all; done) | (simp_all; intros; exfalso; omega)

set_option maxRecDepth 100000 in
set_option maxHeartbeats 1500000 in
theorem rgood4 (s q : Int) (key old val unt : ByteArray) (lim : Int) (w : World) : Calls Try.prog 71 #[.agg (Cmd9.mk 4 s q key old val unt lim).arr] w fun e w' => e = .returned (.bool (good9 ⟨4, s, q, key, old, val, unt, lim⟩)) ∧ Below w.heap.size w w' := by
  have HG : Hid (good9 ⟨4, s, q, key, old, val, unt, lim⟩ = (isKey9 key && asks9 ⟨4, s, q, key, old, val, unt, lim⟩ ⟨0, 0, 0, key, em9, em9, em9, 0⟩)) := rfl
  have HA : Hid (asks9 ⟨4, s, q, key, old, val, unt, lim⟩ ⟨0, 0, 0, key, em9, em9, em9, 0⟩ = (decide (1 ≤ s) && decide (1 ≤ q) && same9 ⟨4, s, q, key, old, val, unt, lim⟩ ⟨4, s, q, key, em9, em9, em9, 0⟩)) := rfl
  have he := eqlC
  have hg := grdC
  have hmix : Try.prog.follows Departure.mixedOrders = true := by kernel_rfl
  have hBB : ∀ x y : Obj, Below w.heap.size w ((w.alloc x).alloc y) := fun x y => ((Below.refl _ _).alloc (Nat.le_refl _) x).alloc (by simp) y
  have k1 := fun w => rkey_any key w
  have k2 := fun w => rvalue_any val w
  have k3 := fun w => rvalue_any old w
  generalize good9 ⟨4, s, q, key, old, val, unt, lim⟩ = r at *
  generalize isKey9 key = b1 at *
  generalize isVal9 val = b2 at *
  generalize isVal9 old = b3 at *
  unfold Cmd9.arr
  dsimp only
  go_enter Try.func71, Try.ntmps71
  go_wp2_with fail
  refine same_mono (k1 _) ?_
  go_wp2
  all_goals
    go_ret
    refine ⟨?_, by first | exact hBB _ _ | exact below_drewN (hBB _ _) 1⟩
    clear he hg hmix hBB k1 k2 k3
    show Ending.returned (Value.bool _) = _
    rw [HG.out, HA.out]
    first | done | rfl | (simp_all; done) | (simp_all; intros; exfalso; omega)

set_option maxRecDepth 100000 in
set_option maxHeartbeats 1500000 in
theorem rgood5 (s q : Int) (key old val unt : ByteArray) (lim : Int) (w : World) : Calls Try.prog 71 #[.agg (Cmd9.mk 5 s q key old val unt lim).arr] w fun e w' => e = .returned (.bool (good9 ⟨5, s, q, key, old, val, unt, lim⟩)) ∧ Below w.heap.size w w' := by
  have HG : Hid (good9 ⟨5, s, q, key, old, val, unt, lim⟩ = (isKey9 key && asks9 ⟨5, s, q, key, old, val, unt, lim⟩ ⟨0, 0, 0, key, em9, em9, em9, 0⟩)) := rfl
  have HA : Hid (asks9 ⟨5, s, q, key, old, val, unt, lim⟩ ⟨0, 0, 0, key, em9, em9, em9, 0⟩ = (decide (1 ≤ s) && decide (1 ≤ q) && same9 ⟨5, s, q, key, old, val, unt, lim⟩ ⟨5, s, q, key, em9, em9, em9, 0⟩)) := rfl
  have he := eqlC
  have hg := grdC
  have hmix : Try.prog.follows Departure.mixedOrders = true := by kernel_rfl
  have hBB : ∀ x y : Obj, Below w.heap.size w ((w.alloc x).alloc y) := fun x y => ((Below.refl _ _).alloc (Nat.le_refl _) x).alloc (by simp) y
  have k1 := fun w => rkey_any key w
  have k2 := fun w => rvalue_any val w
  have k3 := fun w => rvalue_any old w
  generalize good9 ⟨5, s, q, key, old, val, unt, lim⟩ = r at *
  generalize isKey9 key = b1 at *
  generalize isVal9 val = b2 at *
  generalize isVal9 old = b3 at *
  unfold Cmd9.arr
  dsimp only
  go_enter Try.func71, Try.ntmps71
  go_wp2_with fail
  refine same_mono (k1 _) ?_
  go_wp2
  all_goals
    go_ret
    refine ⟨?_, by first | exact hBB _ _ | exact below_drewN (hBB _ _) 1⟩
    clear he hg hmix hBB k1 k2 k3
    show Ending.returned (Value.bool _) = _
    rw [HG.out, HA.out]
    first | done | rfl | (simp_all; done) | (simp_all; intros; exfalso; omega)

set_option maxRecDepth 100000 in
set_option maxHeartbeats 1500000 in
theorem rgood6 (s q : Int) (key old val unt : ByteArray) (lim : Int) (w : World) : Calls Try.prog 71 #[.agg (Cmd9.mk 6 s q key old val unt lim).arr] w fun e w' => e = .returned (.bool (good9 ⟨6, s, q, key, old, val, unt, lim⟩)) ∧ Below w.heap.size w w' := by
  have HG : Hid (good9 ⟨6, s, q, key, old, val, unt, lim⟩ = (isKey9 key && isVal9 old && isVal9 val && asks9 ⟨6, s, q, key, old, val, unt, lim⟩ ⟨0, 0, 0, key, old, val, em9, 0⟩)) := rfl
  have HA : Hid (asks9 ⟨6, s, q, key, old, val, unt, lim⟩ ⟨0, 0, 0, key, old, val, em9, 0⟩ = (decide (1 ≤ s) && decide (1 ≤ q) && same9 ⟨6, s, q, key, old, val, unt, lim⟩ ⟨6, s, q, key, old, val, em9, 0⟩)) := rfl
  have he := eqlC
  have hg := grdC
  have hmix : Try.prog.follows Departure.mixedOrders = true := by kernel_rfl
  have hBB : ∀ x y : Obj, Below w.heap.size w ((w.alloc x).alloc y) := fun x y => ((Below.refl _ _).alloc (Nat.le_refl _) x).alloc (by simp) y
  have k1 := fun w => rkey_any key w
  have k2 := fun w => rvalue_any val w
  have k3 := fun w => rvalue_any old w
  generalize good9 ⟨6, s, q, key, old, val, unt, lim⟩ = r at *
  generalize isKey9 key = b1 at *
  generalize isVal9 val = b2 at *
  generalize isVal9 old = b3 at *
  unfold Cmd9.arr
  dsimp only
  cases b1 with
  | false =>
    go_enter Try.func71, Try.ntmps71
    go_wp2_with fail
    refine same_mono (k1 _) ?_
    go_wp2_with fail
    apply once_proved9
    case main =>
      intro key
      go_region_with (fail)
      all_goals exact key.out
    case proof =>
      go_wp2
      all_goals
        go_ret
        refine ⟨?_, by first | exact hBB _ _ | exact below_drewN (hBB _ _) 1⟩
        clear he hg hmix hBB k1 k2 k3
        show Ending.returned (Value.bool _) = _
        rw [HG.out, HA.out]
        first | done | rfl | (simp_all; done) | (simp_all; intros; exfalso; omega)
  | true =>
    cases b3 with
    | false =>
      go_enter Try.func71, Try.ntmps71
      go_wp2_with fail
      refine same_mono (k1 _) ?_
      go_wp2_with fail
      apply once_proved9
      case main =>
        intro key
        go_region_with (fail)
        all_goals exact key.out
      case proof =>
        go_wp2_with fail
        refine same_mono (k3 _) ?_
        go_wp2
        all_goals
          go_ret
          refine ⟨?_, by first | exact hBB _ _ | exact below_drewN (hBB _ _) 1⟩
          clear he hg hmix hBB k1 k2 k3
          show Ending.returned (Value.bool _) = _
          rw [HG.out, HA.out]
          first | done | rfl | (simp_all; done) | (simp_all; intros; exfalso; omega)
    | true =>
      go_enter Try.func71, Try.ntmps71
      go_wp2_with fail
      refine same_mono (k1 _) ?_
      go_wp2_with fail
      apply once_proved9
      case main =>
        intro key
        go_region_with (fail)
        all_goals exact key.out
      case proof =>
        go_wp2_with fail
        refine same_mono (k3 _) ?_
        go_wp2_with fail
        refine same_mono (k2 _) ?_
        go_wp2
        all_goals
          go_ret
          refine ⟨?_, by first | exact hBB _ _ | exact below_drewN (hBB _ _) 1⟩
          clear he hg hmix hBB k1 k2 k3
          show Ending.returned (Value.bool _) = _
          rw [HG.out, HA.out]
          first | done | rfl | (simp_all; done) | (simp_all; intros; exfalso; omega)

set_option maxRecDepth 100000 in
set_option maxHeartbeats 1500000 in
theorem rgood7 (s q : Int) (key old val unt : ByteArray) (lim : Int) (w : World) : Calls Try.prog 71 #[.agg (Cmd9.mk 7 s q key old val unt lim).arr] w fun e w' => e = .returned (.bool (good9 ⟨7, s, q, key, old, val, unt, lim⟩)) ∧ Below w.heap.size w w' := by
  have HG : Hid (good9 ⟨7, s, q, key, old, val, unt, lim⟩ = (isBnd9 key && isBnd9 unt && isLim9 lim && asks9 ⟨7, s, q, key, old, val, unt, lim⟩ ⟨0, 0, 0, key, em9, em9, unt, lim⟩)) := rfl
  have HA : Hid (asks9 ⟨7, s, q, key, old, val, unt, lim⟩ ⟨0, 0, 0, key, em9, em9, unt, lim⟩ = (decide (1 ≤ s) && decide (1 ≤ q) && same9 ⟨7, s, q, key, old, val, unt, lim⟩ ⟨7, s, q, key, em9, em9, unt, lim⟩)) := rfl
  have he := eqlC
  have hg := grdC
  have hmix : Try.prog.follows Departure.mixedOrders = true := by kernel_rfl
  have hBB : ∀ x y : Obj, Below w.heap.size w ((w.alloc x).alloc y) := fun x y => ((Below.refl _ _).alloc (Nat.le_refl _) x).alloc (by simp) y
  have k1 := fun w => rkey_any key w
  have k2 := fun w => rvalue_any val w
  have k3 := fun w => rvalue_any old w
  generalize good9 ⟨7, s, q, key, old, val, unt, lim⟩ = r at *
  generalize isKey9 key = b1 at *
  generalize isVal9 val = b2 at *
  generalize isVal9 old = b3 at *
  unfold Cmd9.arr
  dsimp only
  have HX : Hid (isBnd9 key = decide ((key.size : Int) ≤ 64) ∧ isBnd9 unt = decide ((unt.size : Int) ≤ 64) ∧ isLim9 lim = (decide (1 ≤ lim) && decide (lim ≤ 64))) := by
    refine ⟨?_, ?_, ?_⟩
    · unfold isBnd9; rw [decide_eq_decide]; omega
    · unfold isBnd9; rw [decide_eq_decide]; omega
    · unfold isLim9; rw [← Bool.decide_and]
  go_enter Try.func71, Try.ntmps71
  go_wp2_with fail
  refine same_mono (k1 _) ?_
  go_wp2_with fail
  apply once_proved9
  case main =>
    intro key
    go_region_with (fail)
    all_goals exact key.out
  case proof =>
    go_wp2
    all_goals
      go_ret
      refine ⟨?_, by first | exact hBB _ _ | exact below_drewN (hBB _ _) 1⟩
      clear he hg hmix hBB k1 k2 k3
      show Ending.returned (Value.bool _) = _
      rw [HG.out, HA.out, HX.out.1, HX.out.2.1, HX.out.2.2]
      first | done | rfl | (simp_all; done) | (simp_all; intros; exfalso; omega)

set_option maxRecDepth 100000 in
set_option maxHeartbeats 1500000 in
theorem rgood_any (c : Cmd9) (w : World) : Calls Try.prog 71 #[.agg c.arr] w fun e w' => e = .returned (.bool (good9 c)) ∧ Below w.heap.size w w' := by
  obtain ⟨k, s, q, key, old, val, unt, lim⟩ := c
  by_cases h1 : k = 1
  · subst h1; exact rgood1 s q key old val unt lim w
  by_cases h2 : k = 2
  · subst h2; exact rgood2 s q key old val unt lim w
  by_cases h3 : k = 3
  · subst h3; exact rgood3 s q key old val unt lim w
  by_cases h4 : k = 4
  · subst h4; exact rgood4 s q key old val unt lim w
  by_cases h5 : k = 5
  · subst h5; exact rgood5 s q key old val unt lim w
  by_cases h6 : k = 6
  · subst h6; exact rgood6 s q key old val unt lim w
  by_cases h7 : k = 7
  · subst h7; exact rgood7 s q key old val unt lim w
  have HG : Hid (good9 ⟨k, s, q, key, old, val, unt, lim⟩ = false) := by
    show _ = _
    unfold good9
    dsimp only
    rw [if_neg h1, if_neg h2, if_neg h3, if_neg (by omega), if_neg h6, if_neg h7]
  have hBB : ∀ x y : Obj, Below w.heap.size w ((w.alloc x).alloc y) := fun x y => ((Below.refl _ _).alloc (Nat.le_refl _) x).alloc (by simp) y
  have k1 := fun w => rkey_any key w
  generalize isKey9 key = b1 at *
  unfold Cmd9.arr
  dsimp only
  go_enter Try.func71, Try.ntmps71
  go_wp2_with fail
  refine same_mono (k1 _) ?_
  go_wp2
  all_goals
    go_ret
    rw [HG.out]
    exact ⟨rfl, hBB _ _⟩

end Go.Proofs.Ytephoegcpjdglaa
