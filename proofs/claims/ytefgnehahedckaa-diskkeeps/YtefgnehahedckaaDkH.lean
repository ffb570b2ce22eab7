/-
  Contract: cut: a file has what is sure of it.
-/
import Derived.Test.YtefgnehahedckaaDkG
namespace Go.Proofs.Ytefgnehahedckaa
open Go.RowKit Go.Maps

def RD.cut (R : RD) (x : ByteArray) : RD := { R with bt := upd R.bt x ((R.bt x).take (R.su x)), used := R.used - ((need (R.bt x).length : Nat) - (need (R.su x) : Nat) : Int) }
theorem Owns.take {w : World} {B : Nat} {e : TypeId} {p : Option Addr} {n c k : Nat} {xs : List Int} (h : Owns w B e (.slice p n c) xs) (hk : k ≤ n) : Owns w B e (.slice p k c) (xs.take k) ∧ (Value.slice p k c).ownBlock = (Value.slice p n c).ownBlock := by
  have hn : n = xs.length := by
    rcases h.2 with ⟨e, h0⟩ | ⟨g, cap, cur, e, _⟩ <;> (simp only [Value.slice.injEq] at e; omega)
  subst hn
  have hl : (xs.take k).length = k := by rw [List.length_take]; omega
  rcases h.2 with ⟨e, h0⟩ | ⟨g, cap, cur, e, _⟩
  · simp only [Value.slice.injEq] at e
    obtain ⟨rfl, _, rfl⟩ := e
    obtain rfl : k = 0 := by omega
    obtain rfl : xs = [] := List.eq_nil_of_length_eq_zero h0
    exact ⟨h, rfl⟩
  · simp only [Value.slice.injEq] at e
    obtain ⟨rfl, _, rfl⟩ := e
    refine ⟨?_, rfl⟩
    have := row_take h hk
    unfold Owns
    rw [hl]
    rw [Nat.mul_one, show (cellsB xs).take k = cellsB (xs.take k) by simp [cellsB, List.map_take]] at this
    exact this
section
variable {w w' : World} {d : Nat} {S : Nat → Prop} {φ : ByteArray → Nat} {σ : ByteArray → Value} {mb : Nat} {vb : Value} {R : RD}
set_option maxRecDepth 10000 in
set_option maxHeartbeats 2000000 in
theorem cut_any (h : Lies8 w d S φ σ mb vb R) (hS : ∀ k, w.heap.size ≤ k → S k) {x : ByteArray} (hx : x ∈ R.names) (hb : (R.bt x).length ≤ 1073741824) (hsu : R.su x ≤ (R.bt x).length)
    (hu : -1099511627776 ≤ R.used ∧ R.used ≤ 1099511627776) :
    Calls Try.prog 73 #[.pointer (some ⟨d, 0, none⟩), .pointer (some ⟨φ x, 0, none⟩)] w fun e w' => (∃ v, e = .returned v) ∧ (∃ σ', Lies8 w' d S φ σ' mb vb (R.cut x)) ∧ Turn S w w' := by
  obtain ⟨-, -, -, -, c4, -, -, -, -, hf⟩ := h.cells
  obtain ⟨k0, k1, kf⟩ := h.fcells hx
  obtain ⟨px, cx, hσ⟩ := (h.row x hx).shape
  have ho := h.row x hx
  rw [hσ] at k0 ho
  have Hσ : Hid (σ x = .slice px (R.bt x).length cx) := hσ
  clear hσ
  have hnc : (R.bt x).length ≤ cx := by
    rcases ho.2 with ⟨e, h0⟩ | ⟨g, cap, cur, e, _, _, hc, _⟩
    · omega
    · simp only [Value.slice.injEq] at e; omega
  have hpx : px = none → cx = 0 := by
    intro e
    rcases ho.2 with ⟨e1, h0⟩ | ⟨g, cap, cur, e1, _⟩
    · simp only [Value.slice.injEq] at e1; exact e1.2.2
    · simp only [Value.slice.injEq] at e1; rw [e] at e1; cases e1.1
  have ht := ho.take hsu
  generalize hn : (R.bt x).length = n at *
  have Hn : Hid ((R.bt x).length = n) := hn
  clear hn
  generalize hsv : R.su x = s at *
  have Hs : Hid (R.su x = s) := hsv
  clear hsv
  have hnn : need n ≤ 16777217 := by unfold need; omega
  have hns : need s ≤ 16777217 := by unfold need; omega
  go_enter Try.func73, Try.ntmps73
  go_wp2_with fail
  refine wp_last (by kernel_rfl) (by kernel_rfl) ?_
  dsimp only [initL, lastL]
  repeat (go_big_quiet_step ((first | (go_at_call 54; exact Calls.quiet_of_same (blocks_any (φ x) px n cx _ k0 (by omega))) | (go_at_call 58; exact Calls.quiet_of_same (need_any s _ (by omega))))))
  refine wpQuiet_nil ?_
  rintro _ ⟨nr, rfl⟩
  gi_wp2
  have h2 := (h.drewN nr).setD 4 (.int .i64 (R.used - ((need n : Nat) - (need s : Nat)))) { R with used := R.used - ((need n : Nat) - (need s : Nat)) } rfl rfl rfl rfl rfl rfl
  have t2 := ((Turn.refl S w).drewN nr).setCell (p := ⟨d, 4, none⟩) (.inl h.sD) (.int .i64 (R.used - ((need n : Nat) - (need s : Nat))))
  have hsz2 : ((w.drewN nr).setCell ⟨d, 4, none⟩ (.int .i64 (R.used - ((need n : Nat) - (need s : Nat))))).heap.size = w.heap.size := by simp [World.setCell, World.drewN]
  generalize (w.drewN nr).setCell ⟨d, 4, none⟩ (.int .i64 (R.used - ((need n : Nat) - (need s : Nat)))) = w3 at *
  clear k0 k1 kf c4 hf
  obtain ⟨k0, k1, kf⟩ := h2.fcells hx
  dsimp only at k1
  rw [Hσ.out] at k0
  rw [Hs.out] at k1
  go_wp2_with fail
  cases px with
  | none =>
    obtain rfl := hpx rfl
    obtain rfl : n = 0 := by omega
    obtain rfl : s = 0 := by omega
    refine wp_last (by kernel_rfl) (by kernel_rfl) ?_
    dsimp only [initL, lastL]
    repeat (go_big_quiet_step (fail))
    refine wpQuiet_nil ?_
    rintro _ ⟨nq, rfl⟩
    gi_wp2
    go_end0
    have ho3 := (h2.drewN nq).row x hx
    rw [Hσ.out] at ho3
    have ht3 := ho3.take (k := 0) (by omega)
    have h3 := (h2.drewN nq).setR hx (v' := .slice none 0 0) (xs := (R.bt x).take 0) ⟨rfl, rfl, rfl, Nat.le_refl _, fun _ _ _ => rfl⟩ ht3.1 (.inl (by rw [Hσ.out])) (fun k hk => hS k (by have : (w3.drewN nq).heap.size = w3.heap.size := rfl; omega))
    refine ⟨⟨_, rfl⟩, ⟨upd σ x (.slice none 0 0), ?_⟩, (t2.drewN nq).setCell (p := ⟨φ x, 0, none⟩) (.inl (h.sF x hx)) _⟩
    unfold RD.cut
    rw [Hn.out, Hs.out]
    exact h3
  | some ad =>
    refine wp_last (by kernel_rfl) (by kernel_rfl) ?_
    dsimp only [initL, lastL]
    repeat (go_big_quiet_step (fail))
    refine wpQuiet_nil ?_
    rintro _ ⟨nq, rfl⟩
    gi_wp2
    go_end0
    have ho3 := (h2.drewN nq).row x hx
    rw [Hσ.out] at ho3
    have ht3 := ho3.take (k := s) (by omega)
    have h3 := (h2.drewN nq).setR hx (v' := .slice (some ad) s cx) (xs := (R.bt x).take s) ⟨rfl, rfl, rfl, Nat.le_refl _, fun _ _ _ => rfl⟩ ht3.1 (.inl (by rw [Hσ.out]; exact ht3.2)) (fun k hk => hS k (by have : (w3.drewN nq).heap.size = w3.heap.size := rfl; omega))
    refine ⟨⟨_, rfl⟩, ⟨upd σ x (.slice (some ad) s cx), ?_⟩, (t2.drewN nq).setCell (p := ⟨φ x, 0, none⟩) (.inl (h.sF x hx)) _⟩
    unfold RD.cut
    rw [Hn.out, Hs.out]
    exact h3
end
end Go.Proofs.Ytefgnehahedckaa
