/-
  Contracts: drop's closure, slices.IndexFunc and slices.DeleteFunc at writes.
-/
import Derived.Test.YtefgnehahedckaaDkD
import Derived.LaidEqlPtr
namespace Go.Proofs.Ytefgnehahedckaa
open Go.RowKit Go.Maps

/-- A file's block. -/
def IsF (w : World) (k : Nat) : Prop := ∃ c, w.heap[k]? = some (.cells c 79 (0, 0))
theorem IsF.below {w w' : World} {k : Nat} (h : IsF w k) (hb : Below w.heap.size w w') : IsF w' k := by
  obtain ⟨c, hc⟩ := h
  exact ⟨c, (hb.block k (Array.getElem?_eq_some_iff.1 hc).1).trans hc⟩
theorem ptr_eq {W : World} {j k : Nat} (hj : IsF W j) (hk : IsF W k) : (binOp .eql 76 (.pointer (some ⟨j, 0, none⟩)) (.pointer (some ⟨k, 0, none⟩))).run Try.prog W = .ok (.bool (decide (j = k))) W := by
  obtain ⟨cj, hj⟩ := hj
  obtain ⟨ck, hk⟩ := hk
  obtain ⟨i, hi, hz, hs, hb⟩ := info_parts (show (Try.prog.info? 79).map (fun i => (i.zero, i.size, i.bytes)) = some (some (.agg #[.slice none 0 0, .int .i64 0]), 2, 32) by kernel_rfl)
  by_cases h : j = k
  · subst h
    rw [decide_eq_true rfl]
    exact run_eql_ptr_same W _ Try.underlying76 hi
  · rw [decide_eq_false h]
    exact run_eql_ptr_other W Try.underlying76 hi (by rw [hs]; decide) (by intro e; simp only [Addr.mk.injEq, and_true] at e; exact h e) hj hk
set_option maxRecDepth 10000 in
theorem drop1_any (j s k fb : Nat) (w : World) (hf : w.cell? ⟨fb, 0, none⟩ = some (.pointer (some ⟨k, 0, none⟩))) (hl : fb < w.heap.size) (hj : IsF w j) (hk : IsF w k) :
    Calls Try.prog 72 #[.agg #[.pointer (some ⟨j, 0, none⟩), .int .i64 (s : Nat)], .pointer (some ⟨fb, 0, none⟩)] w fun e w' => e = .returned (.bool (decide (j = k))) ∧ Below w.heap.size w w' := by
  have hpe := ptr_eq (hj.below ((Below.refl _ w).alloc (Nat.le_refl _) (.cells #[.pointer (some ⟨j, 0, none⟩), .int .i64 (s : Nat)] 82))) (hk.below ((Below.refl _ w).alloc (Nat.le_refl _) (.cells #[.pointer (some ⟨j, 0, none⟩), .int .i64 (s : Nat)] 82)))
  go_enter Try.func72, Try.ntmps72
  go_wp2
  go_ret
  exact ⟨rfl, (Below.refl _ _).alloc (Nat.le_refl _) _⟩
/-- What slices.IndexFunc answers. -/
def IdxP (l : List (Nat × Nat)) (k : Nat) (e : Ending) : Prop := e = .returned (.int .i64 (-1)) ∧ (∀ x ∈ l, x.1 ≠ k) ∨ ∃ i, i < l.length ∧ e = .returned (.int .i64 (i : Nat)) ∧ (∀ x ∈ l.take i, x.1 ≠ k) ∧ (l.getD i default).1 = k

set_option maxRecDepth 10000 in
set_option maxHeartbeats 1000000 in
theorem index8 (l : List (Nat × Nat)) (v : Value) (k fb : Nat) (w : World) (h : OwnsW w v l) (hf : w.cell? ⟨fb, 0, none⟩ = some (.pointer (some ⟨k, 0, none⟩))) (hl : fb < w.heap.size) (hk : IsF w k) (hF : ∀ x ∈ l, IsF w x.1) :
    Calls Try.prog 77 #[v, .func (.func 72) #[] #[.pointer (some ⟨fb, 0, none⟩)]] w fun e w' => IdxP l k e ∧ Below w.heap.size w w' := by
  rcases Nat.eq_zero_or_pos l.length with h0 | h0
  · obtain rfl : l = [] := List.eq_nil_of_length_eq_zero h0
    obtain ⟨p, n, c, rfl, rfl⟩ : ∃ p n c, v = .slice p n c ∧ n = 0 := by
      rcases h.2 with ⟨rfl, _⟩ | ⟨g, cap, cur, rfl, _⟩
      · exact ⟨_, _, _, rfl, rfl⟩
      · exact ⟨_, _, _, rfl, rfl⟩
    go_enter Try.func77, Try.ntmps77
    go_wp2
    go_loop [8] (fun i => i = .int .i64 0) (fun _ => 0)
    case atStart => rfl
    case round =>
      subst hrel
      go_wp2
      go_ret
      exact ⟨.inl ⟨rfl, fun x hx => by cases hx⟩, Below.refl _ _⟩
  · obtain ⟨g, cap, rfl, hg, hc, -, -, hmax⟩ := h.form h0
    obtain ⟨n, Hn⟩ : ∃ n, Hid (l.length = n) := ⟨_, rfl⟩
    have h' := h
    rw [Hn.out] at h' hc hmax
    go_enter Try.func77, Try.ntmps77
    rw [Hn.out]
    go_wp2
    go_loopw [8] (fun i wr => ∃ j : Nat, j ≤ n ∧ i = .int .i64 (j : Nat) ∧ (∀ x ∈ l.take j, x.1 ≠ k) ∧ Below w.heap.size w wr) (fun i _ => n - (intOf i).toNat)
    case atStart => exact ⟨0, Nat.zero_le _, rfl, (fun x hx => by simp at hx), Below.refl _ _⟩
    case round =>
      obtain ⟨j, hj, rfl, hno, hb⟩ := hrel
      by_cases hlt : j < n
      · have hjl : j < l.length := by rw [Hn.out]; exact hlt
        obtain ⟨g', cap', e, -, -, hcell, -⟩ := (h.below hb).form h0
        simp only [Value.slice.injEq, Option.some.injEq, Addr.mk.injEq, and_true, true_and] at e
        obtain ⟨rfl, rfl⟩ := e
        obtain ⟨c1, c2⟩ := hcell j hjl
        have Ht : Hid (l.take (j + 1) = l.take j ++ [l.getD j default]) := by
          show _ = _
          rw [List.take_succ_eq_append_getElem hjl]
          simp [List.getD_eq_getElem?_getD, List.getElem?_eq_getElem hjl]
        have hfr : wr.cell? ⟨fb, 0, none⟩ = some (.pointer (some ⟨k, 0, none⟩)) := (hb.cell (p := ⟨fb, 0, none⟩) hl).trans hf
        have hlr : fb < wr.heap.size := Nat.lt_of_lt_of_le hl hb.size
        obtain ⟨x, Hx⟩ : ∃ x, Hid (l.getD j default = x) := ⟨_, rfl⟩
        rw [Hx.out] at c1 c2 Ht
        have hxF : IsF w x.1 := by rw [← Hx.out]; exact hF _ (by rw [List.getD_eq_getElem?_getD, List.getElem?_eq_getElem hjl]; exact List.getElem_mem hjl)
        obtain ⟨xf, xs⟩ := x
        dsimp only at c1 c2 hxF
        clear hcell
        go_wp2_with fail
        refine (drop1_any xf xs k fb _ hfr hlr (hxF.below hb) (hk.below hb)).mono ?_
        rintro e w1 ⟨rfl, hb1⟩
        by_cases hxk : xf = k
        · rw [decide_eq_true hxk]
          go_wp2
          go_ret
          exact ⟨.inr ⟨j, hjl, rfl, hno, by rw [Hx.out]; exact hxk⟩, hb.trans (hb1.mono hb.size)⟩
        · rw [decide_eq_false hxk]
          go_wp2
          go_roundw
          case rel =>
            refine ⟨j + 1, by omega, by go_num, fun x hx => ?_, hb.trans (hb1.mono hb.size)⟩
            rw [Ht.out] at hx
            rcases List.mem_append.1 hx with hx | hx
            · exact hno x hx
            · rw [List.mem_singleton.1 hx]; exact hxk
          case measure => simp only [intOf]; omega
      · have hjn : j = n := by omega
        subst hjn
        rw [← Hn.out, List.take_length] at hno
        go_wp2
        go_ret
        exact ⟨.inl ⟨rfl, hno⟩, hb⟩
end Go.Proofs.Ytefgnehahedckaa
