import Derived.Test.YtkjnifipepiahaaDoorSwATo
import Derived.Test.YtkjnifipepiahaaDoorSwPTo
import Derived.BigQuiet
import Derived.WalkSmall
import Derived.Test.YtkjnifipepiahaaDoorAgg2To
/-
  Contracts: corbelref04.Seq.
-/
namespace Go.Proofs.YtkjnifipepiahaaDoor
open Go.RowKit Go.Shelf

theorem grp_len (h g : Int) : (grpL h g).length ≤ 1024 := by
  have := end_range g
  unfold grpL
  rw [List.length_map, List.length_range]
  omega

/-- 'append(s, x)' of one int: it has just been laid in a block of its own. -/
theorem ap_int {ops : Array Oper} {rest : List Oper} {o : Oper} {a : Act} {Q : Exit → Act → World → Prop} (w : World) (hgd : o.guard = none) (s x : Operand)
    (ho : o.op = .call { callee := .builtin .append, args := #[s, x], argTypes := #[110, 110] })
    (B : Nat) (v : Value) (xs : List Int) (z : Int) (hs : a.eval s = v) (hx : a.eval x = .slice (some ⟨w.heap.size, 0, none⟩) 1 1) (hown : OwnsI w B v xs) (hlen : xs.length ≤ 1099511627776) (hB : B ≤ w.heap.size)
    (h : ∀ v' w', OwnsI w' B v' (xs ++ [z]) → Below B w w' → wpList Tryd.prog ops Q rest (a.put o.dst v') w') :
    wpList Tryd.prog ops Q (o :: rest) a (w.alloc (.cells #[.int .i64 z] 3)) := by
  obtain ⟨i, hi, hz, hsize, hby⟩ := info_parts Tryd.infoInt
  refine wpList_append_own _ hgd s x 110 ho B 3 i (.int .i64 0) 1 8 Tryd.underlying110 hi hz hsize hby rfl (by decide) v xs.length (xs.map (Value.int .i64)) hs (World.ownsRow.alloc hown _) ⟨w.heap.size, 0, none⟩ 1 1 [.int .i64 z] hx rfl ?_ ?_ ?_ ?_ ?_ ?_
  · intro j u hj
    match j, hj with
    | 0, hj => simp at hj; subst hj; simp [Addr.add]
  · intro u hu; simp at hu; subst hu; rfl
  · unfold maxLen; omega
  · omega
  · simp; omega
  · intro v' w' hown' hgrow _
    refine h v' w' ?_ ?_
    · unfold OwnsI
      rw [List.length_append, List.length_singleton, List.map_append]
      exact hown'
    · exact ((Below.refl B w).alloc hB _).trans ((Below.refl _ _).grown hgrow (by simp; omega) fun k hk => (World.ownsRow.lt hown k hk).1)

set_option maxRecDepth 10000 in
set_option maxHeartbeats 2000000 in
theorem rseq_any (h g : Int) (w : World) (hh0 : 0 ≤ h) (hh1 : h < 18446744073709551616) (h1 : -9223372036854775808 ≤ g) (h2 : g < 9223372036854775808) :
    Calls Tryd.prog 89 #[.int .u64 h, .int .i64 g] w fun e w' => ∃ v, e = .returned v ∧ OwnsI w' w.heap.size v (grpL h g) ∧ Below w.heap.size w w' := by
  cases hg : isGood g with
  | false =>
    have hL : Hid (grpL h g = []) := by show grpL h g = []; unfold grpL endI; rw [if_neg (by simp [hg])]; rfl
    go_enter Tryd.func89, Tryd.ntmps89
    go_wp2_with (go_at_call 104; refine (rgood_any _ _ (by omega) (by omega)).mono ?_; rintro e w' ⟨rfl, rfl⟩; rw [hg])
    go_ret
    refine ⟨_, rfl, ?_, Below.refl _ _⟩
    rw [hL.out]
    exact OwnsI.nil _ _
  | true =>
    have hr := good_range hg
    have hL : Hid (grpL h g = (List.range g.toNat).map fun i : Nat => atI h i g) := by show grpL h g = _; unfold grpL endI; rw [if_pos hg]
    go_enter Tryd.func89, Tryd.ntmps89
    go_wp2_with (go_at_call 104; refine (rgood_any _ _ (by omega) (by omega)).mono ?_; rintro e w' ⟨rfl, rfl⟩; rw [hg])
    go_loopw [5, 6] (fun l t wr => ∃ j : Nat, (j : Int) ≤ g ∧ t = .int .i64 j ∧ OwnsI wr w'.heap.size l ((List.range j).map fun i : Nat => atI h i g) ∧ Below w'.heap.size w' wr) (fun _ t _ => g.toNat - (intOf t).toNat)
    case atStart => exact ⟨0, by omega, rfl, OwnsI.nil _ _, Below.refl _ _⟩
    case round =>
      obtain ⟨j, hj, rfl, hown, hb⟩ := hrel
      have hll : ((List.range j).map fun i : Nat => atI h i g).length = j := by simp
      by_cases hlt : (j : Int) < g
      · go_wp2_with (first
          | (go_at_call 105; refine (rat_any _ _ _ _ (by omega) (by omega) (by omega) (by omega) (by omega) (by omega)).mono ?_; rintro e w1 ⟨rfl, rfl⟩)
          | (at_builtin; refine ap_int _ rfl (.tmp 14) (.tmp 19) rfl w'.heap.size _ _ _ rfl rfl hown (by omega) hb.size ?_; intro v' w2 hown' hb'))
        go_roundw
        case rel =>
          refine ⟨j + 1, by omega, by simp, ?_, hb.trans hb'⟩
          rw [List.range_succ, List.map_append]
          exact hown'
        case measure => simp only [intOf]; omega
      · obtain rfl : (j : Int) = g := by omega
        go_wp2
        go_ret
        refine ⟨_, rfl, ?_, hb⟩
        rw [hL.out, Int.toNat_natCast]
        exact hown

end Go.Proofs.YtkjnifipepiahaaDoor

/-
  Contracts: corbelref03.Get, Set.
-/
namespace Go.Proofs.YtkjnifipepiahaaDoor
open Go.RowKit

theorem rem8 (i : Int) (k : Nat) (hk : i % 8 = k) : i.tmod 8 = k ∨ (i.tmod 8 = (k : Int) - 8 ∧ 0 < k ∧ k < 8) := by
  rw [Int.tmod_eq_emod]
  split
  · left; omega
  · right
    have : (8 : Int).natAbs = 8 := rfl
    omega

set_option maxHeartbeats 1000000 in
theorem rget_any (n : Nat) (i : Int) (k : Nat) (hk : i % 8 = k) (w : World) (hn : n < 18446744073709551616) : Calls Tryd.prog 64 #[.int .u64 n, .int .i64 i] w fun e w' => e = .returned (.int .u8 (byteN n k)) ∧ w' = w := by
  have hr := rem8 i k hk
  have hk8 : k < 8 := by omega
  clear hk
  rcases hr with hr | ⟨hr, hk0, hk8'⟩
  · obtain rfl | rfl | rfl | rfl | rfl | rfl | rfl | rfl : k = 0 ∨ k = 1 ∨ k = 2 ∨ k = 3 ∨ k = 4 ∨ k = 5 ∨ k = 6 ∨ k = 7 := by omega
    all_goals clear hk8
    all_goals go_enter Tryd.func64, Tryd.ntmps64
    all_goals go_wp2
    all_goals go_ret
    all_goals refine ⟨?_, rfl⟩
    all_goals simp [byteN]
    all_goals omega
  · obtain rfl | rfl | rfl | rfl | rfl | rfl | rfl : k = 1 ∨ k = 2 ∨ k = 3 ∨ k = 4 ∨ k = 5 ∨ k = 6 ∨ k = 7 := by omega
    all_goals clear hk8 hk0 hk8'
    all_goals go_enter Tryd.func64, Tryd.ntmps64
    all_goals go_wp2
    all_goals go_ret
    all_goals refine ⟨?_, rfl⟩
    all_goals simp [byteN]
    all_goals omega

theorem put_lit0 (n c : Nat) (hn : n < 18446744073709551616) (hc : c < 256) : bits .or .u64 (bits .andNot .u64 (n : Int) 255) (c : Int) = ((putN n 0 c : Nat) : Int) := by
  have e2 := put_u64 n 0 c hn (by decide) hc
  simp only [Nat.reducePow, Int.cast_ofNat_Int, Nat.mul_one] at e2
  exact e2
theorem put_lit1 (n c : Nat) (hn : n < 18446744073709551616) (hc : c < 256) : bits .or .u64 (bits .andNot .u64 (n : Int) 65280) ((c : Int) * 256) = ((putN n 1 c : Nat) : Int) := by
  have e2 := put_u64 n 1 c hn (by decide) hc
  simp only [Nat.reducePow, Nat.reduceMul, Int.natCast_mul, Int.cast_ofNat_Int] at e2
  exact e2
theorem put_lit2 (n c : Nat) (hn : n < 18446744073709551616) (hc : c < 256) : bits .or .u64 (bits .andNot .u64 (n : Int) 16711680) ((c : Int) * 65536) = ((putN n 2 c : Nat) : Int) := by
  have e2 := put_u64 n 2 c hn (by decide) hc
  simp only [Nat.reducePow, Nat.reduceMul, Int.natCast_mul, Int.cast_ofNat_Int] at e2
  exact e2
theorem put_lit3 (n c : Nat) (hn : n < 18446744073709551616) (hc : c < 256) : bits .or .u64 (bits .andNot .u64 (n : Int) 4278190080) ((c : Int) * 16777216) = ((putN n 3 c : Nat) : Int) := by
  have e2 := put_u64 n 3 c hn (by decide) hc
  simp only [Nat.reducePow, Nat.reduceMul, Int.natCast_mul, Int.cast_ofNat_Int] at e2
  exact e2
theorem put_lit4 (n c : Nat) (hn : n < 18446744073709551616) (hc : c < 256) : bits .or .u64 (bits .andNot .u64 (n : Int) 1095216660480) ((c : Int) * 4294967296) = ((putN n 4 c : Nat) : Int) := by
  have e2 := put_u64 n 4 c hn (by decide) hc
  simp only [Nat.reducePow, Nat.reduceMul, Int.natCast_mul, Int.cast_ofNat_Int] at e2
  exact e2
theorem put_lit5 (n c : Nat) (hn : n < 18446744073709551616) (hc : c < 256) : bits .or .u64 (bits .andNot .u64 (n : Int) 280375465082880) ((c : Int) * 1099511627776) = ((putN n 5 c : Nat) : Int) := by
  have e2 := put_u64 n 5 c hn (by decide) hc
  simp only [Nat.reducePow, Nat.reduceMul, Int.natCast_mul, Int.cast_ofNat_Int] at e2
  exact e2
theorem put_lit6 (n c : Nat) (hn : n < 18446744073709551616) (hc : c < 256) : bits .or .u64 (bits .andNot .u64 (n : Int) 71776119061217280) ((c : Int) * 281474976710656) = ((putN n 6 c : Nat) : Int) := by
  have e2 := put_u64 n 6 c hn (by decide) hc
  simp only [Nat.reducePow, Nat.reduceMul, Int.natCast_mul, Int.cast_ofNat_Int] at e2
  exact e2
theorem put_lit7 (n c : Nat) (hn : n < 18446744073709551616) (hc : c < 256) : bits .or .u64 (bits .andNot .u64 (n : Int) 18374686479671623680) ((c : Int) * 72057594037927936) = ((putN n 7 c : Nat) : Int) := by
  have e2 := put_u64 n 7 c hn (by decide) hc
  simp only [Nat.reducePow, Nat.reduceMul, Int.natCast_mul, Int.cast_ofNat_Int] at e2
  exact e2

set_option maxHeartbeats 2000000 in
theorem rset_any (n : Nat) (i : Int) (k c : Nat) (hk : i % 8 = k) (w : World) (hn : n < 18446744073709551616) (hc : c < 256) : Calls Tryd.prog 60 #[.int .u64 n, .int .i64 i, .int .u8 c] w fun e w' => e = .returned (.int .u64 (putN n k c)) ∧ w' = w := by
  have hr := rem8 i k hk
  have hk8 : k < 8 := by omega
  clear hk
  rcases hr with hr | ⟨hr, hk0, hk8'⟩
  · obtain rfl | rfl | rfl | rfl | rfl | rfl | rfl | rfl : k = 0 ∨ k = 1 ∨ k = 2 ∨ k = 3 ∨ k = 4 ∨ k = 5 ∨ k = 6 ∨ k = 7 := by omega
    all_goals clear hk8
    · have e1 := put_lit0 n c hn hc
      go_enter Tryd.func60, Tryd.ntmps60
      go_wp2
      go_ret
      refine ⟨?_, rfl⟩
      first | rfl | (show Ending.returned (.int .u64 (bits .or .u64 (bits .andNot .u64 (n : Int) 255) (c : Int))) = _; rw [e1])
    · have e1 := put_lit1 n c hn hc
      go_enter Tryd.func60, Tryd.ntmps60
      go_wp2
      go_ret
      refine ⟨?_, rfl⟩
      first | rfl | (show Ending.returned (.int .u64 (bits .or .u64 (bits .andNot .u64 (n : Int) 65280) ((c : Int) * 256))) = _; rw [e1])
    · have e1 := put_lit2 n c hn hc
      go_enter Tryd.func60, Tryd.ntmps60
      go_wp2
      go_ret
      refine ⟨?_, rfl⟩
      first | rfl | (show Ending.returned (.int .u64 (bits .or .u64 (bits .andNot .u64 (n : Int) 16711680) ((c : Int) * 65536))) = _; rw [e1])
    · have e1 := put_lit3 n c hn hc
      go_enter Tryd.func60, Tryd.ntmps60
      go_wp2
      go_ret
      refine ⟨?_, rfl⟩
      first | rfl | (show Ending.returned (.int .u64 (bits .or .u64 (bits .andNot .u64 (n : Int) 4278190080) ((c : Int) * 16777216))) = _; rw [e1])
    · have e1 := put_lit4 n c hn hc
      go_enter Tryd.func60, Tryd.ntmps60
      go_wp2
      go_ret
      refine ⟨?_, rfl⟩
      first | rfl | (show Ending.returned (.int .u64 (bits .or .u64 (bits .andNot .u64 (n : Int) 1095216660480) ((c : Int) * 4294967296))) = _; rw [e1])
    · have e1 := put_lit5 n c hn hc
      go_enter Tryd.func60, Tryd.ntmps60
      go_wp2
      go_ret
      refine ⟨?_, rfl⟩
      first | rfl | (show Ending.returned (.int .u64 (bits .or .u64 (bits .andNot .u64 (n : Int) 280375465082880) ((c : Int) * 1099511627776))) = _; rw [e1])
    · have e1 := put_lit6 n c hn hc
      go_enter Tryd.func60, Tryd.ntmps60
      go_wp2
      go_ret
      refine ⟨?_, rfl⟩
      first | rfl | (show Ending.returned (.int .u64 (bits .or .u64 (bits .andNot .u64 (n : Int) 71776119061217280) ((c : Int) * 281474976710656))) = _; rw [e1])
    · have e1 := put_lit7 n c hn hc
      go_enter Tryd.func60, Tryd.ntmps60
      go_wp2
      go_ret
      refine ⟨?_, rfl⟩
      first | rfl | (show Ending.returned (.int .u64 (bits .or .u64 (bits .andNot .u64 (n : Int) 18374686479671623680) ((c : Int) * 72057594037927936))) = _; rw [e1])
  · obtain rfl | rfl | rfl | rfl | rfl | rfl | rfl : k = 1 ∨ k = 2 ∨ k = 3 ∨ k = 4 ∨ k = 5 ∨ k = 6 ∨ k = 7 := by omega
    all_goals clear hk8 hk0 hk8'
    · have e1 := put_lit1 n c hn hc
      go_enter Tryd.func60, Tryd.ntmps60
      go_wp2
      go_ret
      refine ⟨?_, rfl⟩
      first | rfl | (show Ending.returned (.int .u64 (bits .or .u64 (bits .andNot .u64 (n : Int) 65280) ((c : Int) * 256))) = _; rw [e1])
    · have e1 := put_lit2 n c hn hc
      go_enter Tryd.func60, Tryd.ntmps60
      go_wp2
      go_ret
      refine ⟨?_, rfl⟩
      first | rfl | (show Ending.returned (.int .u64 (bits .or .u64 (bits .andNot .u64 (n : Int) 16711680) ((c : Int) * 65536))) = _; rw [e1])
    · have e1 := put_lit3 n c hn hc
      go_enter Tryd.func60, Tryd.ntmps60
      go_wp2
      go_ret
      refine ⟨?_, rfl⟩
      first | rfl | (show Ending.returned (.int .u64 (bits .or .u64 (bits .andNot .u64 (n : Int) 4278190080) ((c : Int) * 16777216))) = _; rw [e1])
    · have e1 := put_lit4 n c hn hc
      go_enter Tryd.func60, Tryd.ntmps60
      go_wp2
      go_ret
      refine ⟨?_, rfl⟩
      first | rfl | (show Ending.returned (.int .u64 (bits .or .u64 (bits .andNot .u64 (n : Int) 1095216660480) ((c : Int) * 4294967296))) = _; rw [e1])
    · have e1 := put_lit5 n c hn hc
      go_enter Tryd.func60, Tryd.ntmps60
      go_wp2
      go_ret
      refine ⟨?_, rfl⟩
      first | rfl | (show Ending.returned (.int .u64 (bits .or .u64 (bits .andNot .u64 (n : Int) 280375465082880) ((c : Int) * 1099511627776))) = _; rw [e1])
    · have e1 := put_lit6 n c hn hc
      go_enter Tryd.func60, Tryd.ntmps60
      go_wp2
      go_ret
      refine ⟨?_, rfl⟩
      first | rfl | (show Ending.returned (.int .u64 (bits .or .u64 (bits .andNot .u64 (n : Int) 71776119061217280) ((c : Int) * 281474976710656))) = _; rw [e1])
    · have e1 := put_lit7 n c hn hc
      go_enter Tryd.func60, Tryd.ntmps60
      go_wp2
      go_ret
      refine ⟨?_, rfl⟩
      first | rfl | (show Ending.returned (.int .u64 (bits .or .u64 (bits .andNot .u64 (n : Int) 18374686479671623680) ((c : Int) * 72057594037927936))) = _; rw [e1])
end Go.Proofs.YtkjnifipepiahaaDoor

/-
  Contracts: corbelref03.Match, Free, Full.
-/
namespace Go.Proofs.YtkjnifipepiahaaDoor
open Go.RowKit

theorem rget_at {i : Int} (n k : Nat) (hi : i = k) (hk : k < 8) (w : World) (hn : n < 18446744073709551616) : Calls Tryd.prog 64 #[.int .u64 n, .int .i64 i] w fun e w' => e = .returned (.int .u8 (byteN n k)) ∧ w' = w :=
  rget_any n i k (by omega) w hn
theorem st_same (j : Nat) (m : Nat → Nat) (e : m j = 0) : st (j + 1) m = st j m := by
  show st j m + m j * 2 ^ j = st j m
  rw [e, Nat.zero_mul, Nat.add_zero]

theorem pow_u8 (j : Nat) (hj : j < 8) : ((2 ^ j : Nat) : Int) = 2 ^ j % 256 := (by decide : ∀ j : Fin 8, ((2 ^ j.val : Nat) : Int) = 2 ^ j.val % 256) ⟨j, hj⟩

set_option maxHeartbeats 1000000 in
theorem rmatch_any (n h : Nat) (w : World) (hn : n < 18446744073709551616) : Calls Tryd.prog 26 #[.int .u64 n, .int .u8 h] w fun e w' => e = .returned (.int .u8 (matchN n h)) ∧ w' = w := by
  go_enter Tryd.func26, Tryd.ntmps26
  go_wp2
  go_loop [5, 6] (fun o t => ∃ j : Nat, j ≤ 8 ∧ t = .int .i64 j ∧ o = .int .u8 (st j (fun i => if byteN n i = h then 1 else 0) : Nat)) (fun _ t => 8 - (intOf t).toNat)
  case atStart => exact ⟨0, by decide, rfl, rfl⟩
  case round =>
    obtain ⟨j, hj, rfl, rfl⟩ := hrel
    by_cases hlt : j < 8
    · by_cases hx : byteN n j = h
      · have hs := st_or j (fun i => if byteN n i = h then 1 else 0) (fun _ => ite_lt2 _) (if_pos hx)
        have hl : st j (fun i => if byteN n i = h then 1 else 0) < 2 ^ j := st_lt j _ (fun _ => ite_lt2 _)
        have hp : 2 ^ j ≤ 128 := (by decide : ∀ j : Fin 8, 2 ^ j.val ≤ 128) ⟨j, hlt⟩
        have e1 := u8_or_nat (st j (fun i => if byteN n i = h then 1 else 0)) (2 ^ j) (by omega) (by omega)
        rw [hs, pow_u8 j hlt] at e1
        generalize st j (fun i => if byteN n i = h then 1 else 0) = o at *
        have e2 : Hid (bits .or .u8 (o : Int) (2 ^ j % 256) = (st (j + 1) (fun i => if byteN n i = h then 1 else 0) : Nat)) := e1
        clear e1 hs hl hp
        go_wp2_with fail
        refine same_mono (rget_at n j rfl hlt _ hn) ?_
        rw [hx]
        go_wp2
        refine ⟨⟨j + 1, by omega, rfl, by rw [e2.out]⟩, by simp only [intOf]; omega⟩
      · have hs := st_same j (fun i => if byteN n i = h then 1 else 0) (if_neg hx)
        go_wp2_with fail
        refine same_mono (rget_at n j rfl hlt _ hn) ?_
        have hx2 : (byteN n j : Int) ≠ h := by omega
        go_wp2
        refine ⟨⟨j + 1, by omega, rfl, by rw [hs]⟩, by simp only [intOf]; omega⟩
    · obtain rfl : j = 8 := by omega
      go_wp2
      go_ret
      exact ⟨rfl, rfl⟩

set_option maxHeartbeats 1000000 in
theorem rfree_any (n : Nat) (w : World) (hn : n < 18446744073709551616) : Calls Tryd.prog 25 #[.int .u64 n] w fun e w' => e = .returned (.int .u8 (freeN n)) ∧ w' = w := by
  have e1 := u8_or_nat _ _ (matchN_lt n 128) (matchN_lt n 254)
  rw [free_eq] at e1
  go_enter Tryd.func25, Tryd.ntmps25
  go_wp2_with fail
  refine same_mono (rmatch_any n 128 _ hn) ?_
  go_wp2_with fail
  refine same_mono (rmatch_any n 254 _ hn) ?_
  go_wp2
  go_ret
  exact ⟨rfl, rfl⟩

set_option maxRecDepth 10000 in
set_option maxHeartbeats 1000000 in
theorem rfull_any (n : Nat) (w : World) (hn : n < 18446744073709551616) : Calls Tryd.prog 24 #[.int .u64 n] w fun e w' => e = .returned (.int .u8 (fullN n)) ∧ w' = w := by
  go_enter Tryd.func24, Tryd.ntmps24
  go_wp2
  go_loop [3, 4] (fun o t => ∃ j : Nat, j ≤ 8 ∧ t = .int .i64 j ∧ o = .int .u8 (st j (fun i => if byteN n i < 128 then 1 else 0) : Nat)) (fun _ t => 8 - (intOf t).toNat)
  case atStart => exact ⟨0, by decide, rfl, rfl⟩
  case round =>
    obtain ⟨j, hj, rfl, rfl⟩ := hrel
    by_cases hlt : j < 8
    · by_cases hx : byteN n j < 128
      · have hs := st_or j (fun i => if byteN n i < 128 then 1 else 0) (fun _ => ite_lt2 _) (if_pos hx)
        have hl : st j (fun i => if byteN n i < 128 then 1 else 0) < 2 ^ j := st_lt j _ (fun _ => ite_lt2 _)
        have hp : 2 ^ j ≤ 128 := (by decide : ∀ j : Fin 8, 2 ^ j.val ≤ 128) ⟨j, hlt⟩
        have e1 := u8_or_nat (st j (fun i => if byteN n i < 128 then 1 else 0)) (2 ^ j) (by omega) (by omega)
        rw [hs, pow_u8 j hlt] at e1
        generalize st j (fun i => if byteN n i < 128 then 1 else 0) = o at *
        have e2 : Hid (bits .or .u8 (o : Int) (2 ^ j % 256) = (st (j + 1) (fun i => if byteN n i < 128 then 1 else 0) : Nat)) := e1
        clear e1 hs hl hp
        go_wp2_with fail
        refine same_mono (rget_at n j rfl hlt _ hn) ?_
        have hx2 : (byteN n j : Int) < 128 := by omega
        go_wp2
        refine ⟨⟨j + 1, by omega, rfl, by rw [e2.out]⟩, by simp only [intOf]; omega⟩
      · have hs : Hid (st (j + 1) (fun i => if byteN n i < 128 then 1 else 0) = st j (fun i => if byteN n i < 128 then 1 else 0)) := st_same j (fun i => if byteN n i < 128 then 1 else 0) (if_neg hx)
        go_wp2_with fail
        refine same_mono (rget_at n j rfl hlt _ hn) ?_
        have hx2 : ¬ (byteN n j : Int) < 128 := by omega
        clear hx
        generalize byteN n j = y at hx2 ⊢
        have hs2 : ∃ o, st j (fun i => if byteN n i < 128 then 1 else 0) = o := ⟨_, rfl⟩
        obtain ⟨o, ho⟩ := hs2
        have ho2 : Hid (st (j + 1) (fun i => if byteN n i < 128 then 1 else 0) = o) := hs.out.trans ho
        rw [ho]
        clear ho hs
        go_wp2
        refine ⟨⟨j + 1, by omega, rfl, by rw [ho2.out]⟩, by simp only [intOf]; omega⟩
    · obtain rfl : j = 8 := by omega
      go_wp2
      go_ret
      exact ⟨rfl, rfl⟩
end Go.Proofs.YtkjnifipepiahaaDoor
