/-
  Contracts: corbelref04.Seq, corbelref01.Ints, corbellaw04.lives.
-/
import Derived.Test.YtinnhmbikahnkaaP4
import Derived.BigQuiet
import Derived.WalkSmall
namespace Go.Proofs.Ytinnhmbikahnkaa
open Go.RowKit Go.Shelf

/-- 'append(s, x)' of one int: it has just been laid in a block of its own. -/
theorem ap_int {ops : Array Oper} {rest : List Oper} {o : Oper} {a : Act} {Q : Exit → Act → World → Prop} (w : World) (hgd : o.guard = none) (s x : Operand)
    (ho : o.op = .call { callee := .builtin .append, args := #[s, x], argTypes := #[23, 23] })
    (B : Nat) (v : Value) (xs : List Int) (z : Int) (hs : a.eval s = v) (hx : a.eval x = .slice (some ⟨w.heap.size, 0, none⟩) 1 1) (hown : OwnsI w B v xs) (hlen : xs.length ≤ 1099511627776) (hB : B ≤ w.heap.size)
    (h : ∀ v' w', OwnsI w' B v' (xs ++ [z]) → Below B w w' → wpList Try.prog ops Q rest (a.put o.dst v') w') :
    wpList Try.prog ops Q (o :: rest) a (w.alloc (.cells #[.int .i64 z] 3)) := by
  obtain ⟨i, hi, hz, hsize, hby⟩ := info_parts Try.infoInt
  refine wpList_append_own _ hgd s x 23 ho B 3 i (.int .i64 0) 1 8 Try.underlying23 hi hz hsize hby rfl (by decide) v xs.length (xs.map (Value.int .i64)) hs (World.ownsRow.alloc hown _) ⟨w.heap.size, 0, none⟩ 1 1 [.int .i64 z] hx rfl ?_ ?_ ?_ ?_ ?_ ?_
  · intro j u hj
    match j, hj with
    | 0, hj => simp at hj; subst hj; simp [Addr.add]
  · intro u hu; simp at hu; subst hu; rfl
  · unfold maxLen; omega
  · omega
  · simp; omega
  · intro v' w' hown' hgrow _
    refine h v' w' ?_ ?_
    · unfold OwnsI
      rw [List.length_append, List.length_singleton, List.map_append]
      exact hown'
    · exact ((Below.refl B w).alloc hB _).trans ((Below.refl _ _).grown hgrow (by simp; omega) fun k hk => (World.ownsRow.lt hown k hk).1)

set_option maxRecDepth 10000 in
set_option maxHeartbeats 2000000 in
theorem rseq_any (h g : Int) (w : World) (hh0 : 0 ≤ h) (hh1 : h < 18446744073709551616) (h1 : -9223372036854775808 ≤ g) (h2 : g < 9223372036854775808) :
    Calls Try.prog 8 #[.int .u64 h, .int .i64 g] w fun e w' => ∃ v, e = .returned v ∧ OwnsI w' w.heap.size v (grpL h g) ∧ Below w.heap.size w w' := by
  cases hg : isGood g with
  | false =>
    have hL : Hid (grpL h g = []) := by show grpL h g = []; unfold grpL endI; rw [if_neg (by simp [hg])]; rfl
    go_enter Try.func8, Try.ntmps8
    go_wp2_with (go_at_call 12; refine (rgood_any _ _ (by omega) (by omega)).mono ?_; rintro e w' ⟨rfl, rfl⟩; rw [hg])
    go_ret
    refine ⟨_, rfl, ?_, Below.refl _ _⟩
    rw [hL.out]
    exact OwnsI.nil _ _
  | true =>
    have hr := good_range hg
    have hL : Hid (grpL h g = (List.range g.toNat).map fun i : Nat => atI h i g) := by show grpL h g = _; unfold grpL endI; rw [if_pos hg]
    go_enter Try.func8, Try.ntmps8
    go_wp2_with (go_at_call 12; refine (rgood_any _ _ (by omega) (by omega)).mono ?_; rintro e w' ⟨rfl, rfl⟩; rw [hg])
    go_loopw [5, 6] (fun l t wr => ∃ j : Nat, (j : Int) ≤ g ∧ t = .int .i64 j ∧ OwnsI wr w'.heap.size l ((List.range j).map fun i : Nat => atI h i g) ∧ Below w'.heap.size w' wr) (fun _ t _ => g.toNat - (intOf t).toNat)
    case atStart => exact ⟨0, by omega, rfl, OwnsI.nil _ _, Below.refl _ _⟩
    case round =>
      obtain ⟨j, hj, rfl, hown, hb⟩ := hrel
      have hll : ((List.range j).map fun i : Nat => atI h i g).length = j := by simp
      by_cases hlt : (j : Int) < g
      · go_wp2_with (first
          | (go_at_call 15; refine (rat_any _ _ _ _ (by omega) (by omega) (by omega) (by omega) (by omega) (by omega)).mono ?_; rintro e w1 ⟨rfl, rfl⟩)
          | (at_builtin; refine ap_int _ rfl (.tmp 14) (.tmp 19) rfl w'.heap.size _ _ _ rfl rfl hown (by omega) hb.size ?_; intro v' w2 hown' hb'))
        go_roundw
        case rel =>
          refine ⟨j + 1, by omega, by simp, ?_, hb.trans hb'⟩
          rw [List.range_succ, List.map_append]
          exact hown'
        case measure => simp only [intOf]; omega
      · obtain rfl : (j : Int) = g := by omega
        go_wp2
        go_ret
        refine ⟨_, rfl, ?_, hb⟩
        rw [hL.out, Int.toNat_natCast]
        exact hown

end Go.Proofs.Ytinnhmbikahnkaa
