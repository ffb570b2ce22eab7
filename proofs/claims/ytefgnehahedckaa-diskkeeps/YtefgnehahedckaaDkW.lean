/-
  Contracts: New, Arm, Start, On, Ops, Used, Pending, Read of the disk.
-/
import Derived.Test.YtefgnehahedckaaDkV
namespace Go.Proofs.Ytefgnehahedckaa
open Go.RowKit Go.Maps

section
variable {w w' : World} {d : Nat} {S : Nat → Prop} {φ : ByteArray → Nat} {σ : ByteArray → Value} {mb : Nat} {vb : Value} {R : RD} {M : DM}
theorem on_any (hD : DiskAt w d S M) : Calls Try.prog 29 #[.pointer (some ⟨d, 0, none⟩)] w fun e w' => e = .returned (.bool (!M.off)) ∧ w' = w := by
  cases hf : M.off with
  | true =>
    have hr := ready_off hD hf
    go_enter Try.func29, Try.ntmps29
    go_wp2_with fail
    refine same_mono hr ?_
    go_wp2
    go_ret
    exact ⟨rfl, rfl⟩
  | false =>
    have hr := ready_on hD hf
    go_enter Try.func29, Try.ntmps29
    go_wp2_with fail
    refine same_mono hr ?_
    go_wp2
    go_ret
    exact ⟨rfl, rfl⟩
theorem ops_any (hD : DiskAt w d S M) : Calls Try.prog 30 #[.pointer (some ⟨d, 0, none⟩)] w fun e w' => e = .returned (.int .i64 (M.ops : Nat)) ∧ w' = w := by
  obtain ⟨φ, σ, mb, vb, mn, kv, h, -⟩ := hD
  obtain ⟨c0, -, -, -, -, -, c6, -⟩ := h.cells
  have c6' : w.cell? ⟨d, 6, none⟩ = some (.int .i64 (M.ops : Nat)) := c6
  have hm := made_any8 d (some mb) w c0
  clear c6
  go_enter Try.func30, Try.ntmps30
  go_wp2_with fail
  refine same_mono hm ?_
  go_wp2
  go_ret
  exact ⟨rfl, rfl⟩
def DM.usedT (M : DM) : Nat := if M.off = true then 0 else M.used
def DM.pendT (M : DM) : Nat := if M.off = true then 0 else tot M.buf
theorem used_any (hD : DiskAt w d S M) : Calls Try.prog 24 #[.pointer (some ⟨d, 0, none⟩)] w fun e w' => e = .returned (.int .i64 (M.usedT : Nat)) ∧ w' = w := by
  have hon := on_any hD
  unfold DM.usedT
  cases hf : M.off with
  | true =>
    rw [hf] at hon
    go_enter Try.func24, Try.ntmps24
    go_wp2_with fail
    refine same_mono hon ?_
    go_wp2
    go_ret
    exact ⟨rfl, rfl⟩
  | false =>
    rw [hf] at hon
    obtain ⟨φ, σ, mb, vb, mn, kv, h, -⟩ := hD
    obtain ⟨-, -, -, -, c4, -⟩ := h.cells
    have c4' : w.cell? ⟨d, 4, none⟩ = some (.int .i64 (M.used : Nat)) := c4
    clear c4
    rw [if_neg (by decide)]
    go_enter Try.func24, Try.ntmps24
    go_wp2_with fail
    refine same_mono hon ?_
    go_wp2
    go_ret
    exact ⟨rfl, rfl⟩
theorem pending_any (hD : DiskAt w d S M) : Calls Try.prog 19 #[.pointer (some ⟨d, 0, none⟩)] w fun e w' => e = .returned (.int .i64 (M.pendT : Nat)) ∧ w' = w := by
  have hon := on_any hD
  unfold DM.pendT
  cases hf : M.off with
  | true =>
    rw [hf] at hon
    go_enter Try.func19, Try.ntmps19
    go_wp2_with fail
    refine same_mono hon ?_
    go_wp2
    go_ret
    exact ⟨rfl, rfl⟩
  | false =>
    rw [hf] at hon
    obtain ⟨φ, σ, mb, vb, mn, kv, h, -⟩ := hD
    obtain ⟨-, -, c2, -⟩ := h.cells
    have c2' : w.cell? ⟨d, 2, none⟩ = some (.int .i64 (tot M.buf : Nat)) := c2
    clear c2
    rw [if_neg (by decide)]
    go_enter Try.func19, Try.ntmps19
    go_wp2_with fail
    refine same_mono hon ?_
    go_wp2
    go_ret
    exact ⟨rfl, rfl⟩
set_option maxRecDepth 10000 in
theorem start_any (hD : DiskAt w d S M) : Calls Try.prog 22 #[.pointer (some ⟨d, 0, none⟩)] w fun e w' => (∃ v, e = .returned v) ∧ DiskAt w' d S M.start ∧ Turn S w w' := by
  obtain ⟨φ, σ, mb, vb, mn, kv, h, -⟩ := hD
  obtain ⟨c0, -, -, -, -, c5, -, c7, c8, cf⟩ := h.cells
  have hm := made_any8 d (some mb) w c0
  have f5 := cf 5
  have f7 := cf 7
  have f8 := cf 8
  have h1 := h.setD 5 (.bool true) { M.raw mn kv with on := true } rfl rfl rfl rfl rfl rfl
  have h2 := h1.setD 7 (.int .i64 0) { M.raw mn kv with on := true, armed := 0 } rfl rfl rfl rfl rfl rfl
  have h3 := h2.setD 8 (.int .i64 0) { M.raw mn kv with on := true, armed := 0, keep := 0 } rfl rfl rfl rfl rfl rfl
  have t3 := (((Turn.refl S w).setCell (p := ⟨d, 5, none⟩) (.inl h.sD) (.bool true)).setCell (p := ⟨d, 7, none⟩) (.inl h.sD) (.int .i64 0)).setCell (p := ⟨d, 8, none⟩) (.inl h.sD) (.int .i64 0)
  clear h1 h2
  go_enter Try.func22, Try.ntmps22
  go_wp2_with fail
  refine same_mono hm ?_
  go_wp2
  go_end0
  exact ⟨⟨_, rfl⟩, ⟨φ, σ, mb, vb, mn, 0, h3.congr (fun _ => Iff.rfl) (fun _ _ => rfl) (fun _ _ => rfl) rfl rfl rfl rfl rfl rfl rfl rfl rfl, fun h => absurd rfl h⟩, t3⟩
set_option maxRecDepth 10000 in
theorem arm_any (hD : DiskAt w d S M) (n k : Int) (hn : -9223372036854775808 ≤ n ∧ n ≤ 9223372036854775807) : Calls Try.prog 28 #[.pointer (some ⟨d, 0, none⟩), .int .i64 n, .int .i64 k] w fun e w' => e = .returned (.int .i64 ((M.arm n k).1 : Nat)) ∧ DiskAt w' d S (M.arm n k).2 ∧ Turn S w w' := by
  cases hf : M.off with
  | true =>
    have e : M.arm n k = (9, M) := by unfold DM.arm; rw [if_pos hf]
    rw [e]
    have hr := ready_off hD hf
    go_enter Try.func28, Try.ntmps28
    go_wp2_with fail
    refine same_mono hr ?_
    go_wp2
    go_ret
    exact ⟨rfl, hD, Turn.refl _ _⟩
  | false =>
    have e : M.arm n k = (0, { M with n := n.toNat, keep := k }) := by unfold DM.arm; rw [if_neg (by rw [hf]; decide)]
    rw [e]
    have hr := ready_on hD hf
    obtain ⟨φ, σ, mb, vb, mn, kv, h, -⟩ := hD
    obtain ⟨-, -, -, -, -, -, -, c7, c8, cf⟩ := h.cells
    have f7 := cf 7
    have f8 := cf 8
    by_cases hn0 : 0 ≤ n
    · have h1 := h.setD 7 (.int .i64 n) { M.raw mn kv with armed := n } rfl rfl rfl rfl rfl rfl
      have h2 := h1.setD 8 (.int .i64 k) { M.raw mn kv with armed := n, keep := k } rfl rfl rfl rfl rfl rfl
      have t2 := ((Turn.refl S w).setCell (p := ⟨d, 7, none⟩) (.inl h.sD) (.int .i64 n)).setCell (p := ⟨d, 8, none⟩) (.inl h.sD) (.int .i64 k)
      clear h1
      go_enter Try.func28, Try.ntmps28
      go_wp2_with fail
      refine same_mono hr ?_
      go_wp2
      go_ret
      refine ⟨rfl, ⟨φ, σ, mb, vb, mn, k, h2.congr (fun _ => Iff.rfl) (fun _ _ => rfl) (fun _ _ => rfl) rfl rfl rfl rfl rfl rfl rfl ?_ rfl, fun _ => rfl⟩, t2⟩
      show ((n.toNat : Nat) : Int) = n
      omega
    · have hn0' : n < 0 := by omega
      have h1 := h.setD 7 (.int .i64 0) { M.raw mn kv with armed := 0 } rfl rfl rfl rfl rfl rfl
      have h2 := h1.setD 8 (.int .i64 k) { M.raw mn kv with armed := 0, keep := k } rfl rfl rfl rfl rfl rfl
      have t2 := ((Turn.refl S w).setCell (p := ⟨d, 7, none⟩) (.inl h.sD) (.int .i64 0)).setCell (p := ⟨d, 8, none⟩) (.inl h.sD) (.int .i64 k)
      clear h1
      go_enter Try.func28, Try.ntmps28
      go_wp2_with fail
      refine same_mono hr ?_
      go_wp2
      go_ret
      refine ⟨rfl, ⟨φ, σ, mb, vb, mn, k, h2.congr (fun _ => Iff.rfl) (fun _ _ => rfl) (fun _ _ => rfl) rfl rfl rfl rfl rfl rfl rfl ?_ rfl, fun _ => rfl⟩, t2⟩
      show ((n.toNat : Nat) : Int) = 0
      omega
end
theorem new_bad (b : Int) (w : World) (hb : b < 0 ∨ 16777216 < b) : Calls Try.prog 9 #[.int .i64 b] w fun e w' => e = .returned (.pointer none) ∧ w' = w := by
  by_cases h0 : b < 0
  · go_enter Try.func9, Try.ntmps9
    go_wp2
    go_ret
    exact ⟨rfl, rfl⟩
  · have h1 : 16777216 < b := by omega
    have h0' : 0 ≤ b := by omega
    go_enter Try.func9, Try.ntmps9
    go_wp2
    go_ret
    exact ⟨rfl, rfl⟩
set_option maxRecDepth 10000 in
theorem new_good (b : Nat) (w : World) (hb : b ≤ 16777216) : Calls Try.prog 9 #[.int .i64 (b : Nat)] w fun e w' => e = .returned (.pointer (some ⟨w.heap.size + 1, 0, none⟩)) ∧ DiskAt w' (w.heap.size + 1) (fun k => w.heap.size ≤ k ∧ k < w'.heap.size) (DM.empty b) ∧ Below w.heap.size w w' := by
  have hmm := @run_makeMap Try.prog
  have hb' : (b : Int) ≤ 16777216 := by omega
  have hm := MapAt.made w (fun _ => 0)
  go_enter Try.func9, Try.ntmps9
  go_wp2
  go_ret
  have hA := heap_alloc_new (w.alloc (.map #[] 0)) (.cells #[.map (some w.heap.size), .slice none 0 0, .int .i64 0, .int .i64 (b : Nat), .int .i64 0, .bool true, .int .i64 0, .int .i64 0, .int .i64 0] 57)
  rw [World.size_alloc] at hA
  refine ⟨rfl, ⟨fun _ => 0, fun _ => .slice none 0 0, w.heap.size, .slice none 0 0, 0, 0, ?_, fun h => absurd rfl h⟩, ((Below.refl _ _).alloc (Nat.le_refl _) _).alloc (by simp) _⟩
  refine ⟨hA, hm.same (Below.heap_alloc _ _ _ (by simp)), World.ownsRow_nil _ _ _ _, (fun x hx => by cases hx), (fun x hx => by cases hx), (fun x hx => by cases hx), (fun x hx => by cases hx), (fun x hx => by cases hx), ⟨by omega, by simp⟩, ⟨Nat.le_refl _, by simp; omega⟩, (fun g hg => by cases hg), (fun x hx => by cases hx), fun x hx => by cases hx⟩
end Go.Proofs.Ytefgnehahedckaa
