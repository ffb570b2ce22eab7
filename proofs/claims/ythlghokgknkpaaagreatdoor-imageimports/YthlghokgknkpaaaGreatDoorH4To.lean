import Derived.Test.YthlghokgknkpaaaGreatDoorSip3To
import Derived.Test.YthlghokgknkpaaaGreatDoorP3To
import Derived.Test.YthlghokgknkpaaaGreatDoorSwBTo
import Derived.BigQuiet
import Derived.WalkSmall
import Derived.Test.YthlghokgknkpaaaGreatDoorAgg2To
/-
  Contracts of corbelref02.block and corbelref02.Sum.
-/
namespace Go.Proofs.YthlghokgknkpaaaGreatDoor
open Go.RowKit

/-- Four words stored, one after the other. -/
def put4 (w : World) (B : Nat) (u : V4) : World := (((w.setCell ⟨B, 0, none⟩ (.int .u64 u.a)).setCell ⟨B, 1, none⟩ (.int .u64 u.b)).setCell ⟨B, 2, none⟩ (.int .u64 u.c)).setCell ⟨B, 3, none⟩ (.int .u64 u.d)
theorem Vat.put {w : World} {B : Nat} {v : V4} (h : Vat w B v) (u : V4) : Vat (put4 w B u) B u := (((h.s0 u.a).s1 u.b).s2 u.c).s3 u.d
theorem below_put {M B : Nat} {a w : World} (h : Below M a w) (hB : M ≤ B) (u : V4) : Below M a (put4 w B u) := (((h.setCell hB _).setCell hB _).setCell hB _).setCell hB _

theorem Vat.other {w : World} {B C : Nat} {v : V4} (h : Vat w C v) (hn : C ≠ B) (i : Nat) (x : Value) : Vat (w.setCell ⟨B, i, none⟩ x) C v := by
  unfold Vat; rw [Below.heap_setCell _ _ _ _ hn]; exact h

set_option maxHeartbeats 1000000 in
theorem rblock_any (v : V4) (m : Int) (w : World) :
    Calls Tryz.prog 105 #[v.val, .int .u64 m] w fun e w' => e = .returned (mixI v m).val ∧ Below w.heap.size w w' := by
  unfold V4.val
  go_enter Tryz.func105, Tryz.ntmps105
  go_wp2_with fail
  have hv : Vat ((w.alloc (.cells #[.int .u64 v.a, .int .u64 v.b, .int .u64 v.c, .int .u64 (xorI v.d m)] 137)).alloc (.cells #[.int .u64 0, .int .u64 0, .int .u64 0, .int .u64 0] 137)) w.heap.size ⟨v.a, v.b, v.c, xorI v.d m⟩ := by
    unfold Vat; rw [Below.heap_alloc _ _ _ (by simp), heap_alloc_new]
  have hz : Vat ((w.alloc (.cells #[.int .u64 v.a, .int .u64 v.b, .int .u64 v.c, .int .u64 (xorI v.d m)] 137)).alloc (.cells #[.int .u64 0, .int .u64 0, .int .u64 0, .int .u64 0] 137)) (w.heap.size + 1) ⟨0, 0, 0, 0⟩ := vat_new _ ⟨0, 0, 0, 0⟩ _ (by simp)
  have hb : Below w.heap.size w ((w.alloc (.cells #[.int .u64 v.a, .int .u64 v.b, .int .u64 v.c, .int .u64 (xorI v.d m)] 137)).alloc (.cells #[.int .u64 0, .int .u64 0, .int .u64 0, .int .u64 0] 137)) := ((Below.refl _ _).alloc (Nat.le_refl _) _).alloc (by simp) _
  refine (rround_any ⟨v.a, v.b, v.c, xorI v.d m⟩ _).mono ?_
  rintro e w1 ⟨rfl, hb1⟩
  replace hv := hv.below hb1 (Nat.le_refl _)
  replace hz := hz.below hb1 (Nat.le_refl _)
  replace hb := hb.trans (hb1.mono hb.size)
  clear hb1
  generalize hu1 : roundI ⟨v.a, v.b, v.c, xorI v.d m⟩ = u1
  have HU1 : Hid (roundI ⟨v.a, v.b, v.c, xorI v.d m⟩ = u1) := hu1
  clear hu1
  simp only [V4.val]
  go_wp2_with fail
  refine (rround_any u1 _).mono ?_
  rintro e w2 ⟨rfl, hb2⟩
  replace hv := hv.below hb2 (Nat.le_refl _)
  replace hz := hz.below hb2 (Nat.le_refl _)
  replace hb := hb.trans (hb2.mono hb.size)
  clear hb2
  generalize hu2 : roundI u1 = u2
  have HU2 : Hid (roundI u1 = u2) := hu2
  clear hu2
  simp only [V4.val]
  have c0 := hv.c0
  have c1 := hv.c1
  have c2 := hv.c2
  have c3 := hv.c3
  have f0 := hv.free 0
  have f1 := hv.free 1
  have f2 := hv.free 2
  have f3 := hv.free 3
  have hp := (hv.put u2).s0 (bits .xor .u64 u2.a m)
  have d0 := hp.c0
  have d1 := hp.c1
  have d2 := hp.c2
  have d3 := hp.c3
  have z0 := hz.c0
  have z1 := hz.c1
  have z2 := hz.c2
  have z3 := hz.c3
  have y0 := hz.free 0
  have y1 := hz.free 1
  have y2 := hz.free 2
  have y3 := hz.free 3
  unfold put4 at d0 d1 d2 d3
  dsimp only at c0 c1 c2 c3 d0 d1 d2 d3 z0 z1 z2 z3
  clear hp
  go_wp2_with fail
  have hn : w.heap.size + 1 ≠ w.heap.size := by omega
  have hF := (((((hz.other hn 0 (.int .u64 u2.a)).other hn 1 (.int .u64 u2.b)).other hn 2 (.int .u64 u2.c)).other hn 3 (.int .u64 u2.d)).other hn 0 (.int .u64 (bits .xor .u64 u2.a m))).put ⟨bits .xor .u64 u2.a m, u2.b, u2.c, u2.d⟩
  have e0 := hF.c0
  have e1 := hF.c1
  have e2 := hF.c2
  have e3 := hF.c3
  unfold put4 at e0 e1 e2 e3
  dsimp only at e0 e1 e2 e3
  have hbF := below_put (B := w.heap.size + 1) ((below_put hb (Nat.le_refl _) u2).setCell (p := ⟨w.heap.size, 0, none⟩) (Nat.le_refl _) (.int .u64 (bits .xor .u64 u2.a m))) (by omega) ⟨bits .xor .u64 u2.a m, u2.b, u2.c, u2.d⟩
  have em : mixI v m = ⟨bits .xor .u64 u2.a m, u2.b, u2.c, u2.d⟩ := by
    have h1 := HU1.out
    have h2 := HU2.out
    subst h1 h2
    rfl
  rw [em]
  clear c0 c1 c2 c3 f0 f1 f2 f3 d0 d1 d2 d3 z0 z1 z2 z3 y0 y1 y2 y3 hF hz hv
  refine bodyPost_ret (v := V4.val ⟨bits .xor .u64 u2.a m, u2.b, u2.c, u2.d⟩) (by simp [results, Tryz.results105, go_sem, e0, e1, e2, e3, V4.val]) rfl ⟨rfl, hbF⟩

set_option maxHeartbeats 1000000 in
theorem rsum_any (k0 k1 : Int) (s : ByteArray) (w : World) (hs : s.size < 140737488355328) :
    Calls Tryz.prog 73 #[.int .u64 k0, .int .u64 k1, .string s] w fun e w' => e = .returned (.int .u64 (sumI k0 k1 (byt s) s.size)) ∧ Below w.heap.size w w' := by
  have q0 : bits .xor .u64 k0 8317987319222330741 = (startI k0 k1).a := by simp only [startI, xorI]
  have q1 : bits .xor .u64 k1 7237128888997146477 = (startI k0 k1).b := by simp only [startI, xorI]
  have q2 : bits .xor .u64 k0 7816392313619706465 = (startI k0 k1).c := by simp only [startI, xorI]
  have q3 : bits .xor .u64 k1 8387220255154660723 = (startI k0 k1).d := by simp only [startI, xorI]
  go_enter Tryz.func73, Tryz.ntmps73
  go_wp2
  clear q0 q1 q2 q3
  go_loopw [8, 9] (fun m i wr => ∃ q r : Nat, r < 8 ∧ 8 * q + r ≤ s.size ∧ i = .int .i64 ((8 * q + r : Nat) : Int) ∧ m = .int .u64 (blkI (fun j => byt s (8 * q + j)) r) ∧ Vat wr w.heap.size (foldI (byt s) q (startI k0 k1)) ∧ Below w.heap.size w wr) (fun _ i _ => s.size - (intOf i).toNat)
  case atStart =>
    refine ⟨0, 0, by omega, by omega, rfl, rfl, vat_new w (startI k0 k1) _ rfl, (Below.refl _ _).alloc (Nat.le_refl _) _⟩
  case round =>
    obtain ⟨q, r, hr, hk, rfl, rfl, hv, hb⟩ := hrel
    have ht : (((8 * q + r : Nat) : Int)).tmod 8 = (r : Int) := by rw [Int.tmod_eq_emod_of_nonneg (by omega)]; omega
    by_cases hlt : 8 * q + r < s.size
    · by_cases h7 : r = 7
      · subst h7
        have hby := byt_at s (8 * q + 7) hlt
        have hm : bits .or .u64 (blkI (fun j => byt s (8 * q + j)) 7) (IntKind.u64.wrap (byt s (8 * q + 7) * 72057594037927936)) = blkI (fun j => byt s (8 * q + j)) 8 := by
          rw [show (72057594037927936 : Int) = 2 ^ (8 * 7) by decide]; rfl
        have c0 := hv.c0
        have c1 := hv.c1
        have c2 := hv.c2
        have c3 := hv.c3
        go_wp2_with fail
        refine (rblock_any (foldI (byt s) q (startI k0 k1)) _ wr).mono ?_
        rintro e w1 ⟨rfl, hb1⟩
        have hv1 := hv.below hb1 (Nat.le_refl _)
        have hbb := hb.trans (hb1.mono hb.size)
        clear c0 c1 c2 c3 hv hb hb1 hby hm
        have hp := hv1.put (mixI (foldI (byt s) q (startI k0 k1)) (blkI (fun j => byt s (8 * q + j)) 8))
        have hbp := below_put (B := w.heap.size) hbb (Nat.le_refl _) (mixI (foldI (byt s) q (startI k0 k1)) (blkI (fun j => byt s (8 * q + j)) 8))
        have c0 := hv1.c0
        have c1 := hv1.c1
        have c2 := hv1.c2
        have c3 := hv1.c3
        have f0 := hv1.free 0
        have f1 := hv1.free 1
        have f2 := hv1.free 2
        have f3 := hv1.free 3
        simp only [V4.val]
        go_wp2_with fail
        refine ⟨⟨q + 1, 0, by omega, by omega, by congr 1, rfl, hp, hbp⟩, by simp only [intOf]; omega⟩
      · have hby := byt_at s (8 * q + r) hlt
        go_wp2_with fail
        rw [Nat.mod_eq_of_lt hr]
        exact ⟨⟨q, r + 1, by omega, by omega, by congr 1, rfl, hv, hb⟩, by simp only [intOf]; omega⟩
    · obtain ⟨rfl, rfl⟩ : q = s.size / 8 ∧ r = s.size % 8 := by omega
      have c0 := hv.c0
      have c1 := hv.c1
      have c2 := hv.c2
      have c3 := hv.c3
      go_wp2_with fail
      rw [show (s.size : Int) % 256 * 72057594037927936 = IntKind.u64.wrap ((s.size : Int) * 2 ^ 56) by rw [IntKind.wrap_u64]; omega]
      refine (rblock_any (foldI (byt s) (s.size / 8) (startI k0 k1)) _ wr).mono ?_
      rintro e w1 ⟨rfl, hb1⟩
      have hv1 := hv.below hb1 (Nat.le_refl _)
      have hbb := hb.trans (hb1.mono hb.size)
      clear c0 c1 c2 c3 hv hb hb1
      generalize hM : mixI (foldI (byt s) (s.size / 8) (startI k0 k1)) (bits .or .u64 (blkI (fun j => byt s (8 * (s.size / 8) + j)) (s.size % 8)) (IntKind.u64.wrap ((s.size : Int) * 2 ^ 56))) = M
      have HM : Hid (mixI (foldI (byt s) (s.size / 8) (startI k0 k1)) (bits .or .u64 (blkI (fun j => byt s (8 * (s.size / 8) + j)) (s.size % 8)) (IntKind.u64.wrap ((s.size : Int) * 2 ^ 56))) = M) := hM
      clear hM
      have hp := (hv1.put M).s2 (bits .xor .u64 M.c 255)
      have hbp := (below_put (B := w.heap.size) hbb (Nat.le_refl _) M).setCell (p := ⟨w.heap.size, 2, none⟩) (Nat.le_refl _) (.int .u64 (bits .xor .u64 M.c 255))
      have c0 := hv1.c0
      have c1 := hv1.c1
      have c2 := hv1.c2
      have c3 := hv1.c3
      have f0 := hv1.free 0
      have f1 := hv1.free 1
      have f2 := hv1.free 2
      have f3 := hv1.free 3
      have d0 := hp.c0
      have d1 := hp.c1
      have d2 := hp.c2
      have d3 := hp.c3
      unfold put4 at d0 d1 d2 d3
      dsimp only at d0 d1 d2 d3
      simp only [V4.val]
      go_wp2_with fail
      clear c0 c1 c2 c3 f0 f1 f2 f3 d0 d1 d2 d3 hv1
      unfold put4 at hp hbp
      refine (rround_any (⟨M.a, M.b, bits .xor .u64 M.c 255, M.d⟩ : V4) _).mono ?_
      rintro e x1 ⟨rfl, hb1⟩
      replace hp := hp.below hb1 (Nat.le_refl _)
      replace hbp := hbp.trans (hb1.mono hbp.size)
      clear hb1
      generalize hu1 : roundI (⟨M.a, M.b, bits .xor .u64 M.c 255, M.d⟩ : V4) = u1
      have HU1 : Hid (roundI (⟨M.a, M.b, bits .xor .u64 M.c 255, M.d⟩ : V4) = u1) := hu1
      clear hu1
      simp only [V4.val]
      go_wp2_with fail
      refine (rround_any u1 _).mono ?_
      rintro e x2 ⟨rfl, hb2⟩
      replace hp := hp.below hb2 (Nat.le_refl _)
      replace hbp := hbp.trans (hb2.mono hbp.size)
      clear hb2
      generalize hu2 : roundI u1 = u2
      have HU2 : Hid (roundI u1 = u2) := hu2
      clear hu2
      simp only [V4.val]
      go_wp2_with fail
      refine (rround_any u2 _).mono ?_
      rintro e x3 ⟨rfl, hb3⟩
      replace hp := hp.below hb3 (Nat.le_refl _)
      replace hbp := hbp.trans (hb3.mono hbp.size)
      clear hb3
      generalize hu3 : roundI u2 = u3
      have HU3 : Hid (roundI u2 = u3) := hu3
      clear hu3
      simp only [V4.val]
      go_wp2_with fail
      refine (rround_any u3 _).mono ?_
      rintro e x4 ⟨rfl, hb4⟩
      replace hp := hp.below hb4 (Nat.le_refl _)
      replace hbp := hbp.trans (hb4.mono hbp.size)
      clear hb4
      generalize hu4 : roundI u3 = u4
      have HU4 : Hid (roundI u3 = u4) := hu4
      clear hu4
      simp only [V4.val]
      have c0 := hp.c0
      have c1 := hp.c1
      have c2 := hp.c2
      have c3 := hp.c3
      have f0 := hp.free 0
      have f1 := hp.free 1
      have f2 := hp.free 2
      have f3 := hp.free 3
      dsimp only at c0 c1 c2 c3
      go_wp2
      go_ret
      refine ⟨?_, below_put (B := w.heap.size) hbp (Nat.le_refl _) u4⟩
      have e0 := HM.out
      have e1 := HU1.out
      have e2 := HU2.out
      have e3 := HU3.out
      have e4 := HU4.out
      subst e0 e1 e2 e3 e4
      rfl
end Go.Proofs.YthlghokgknkpaaaGreatDoor

/-
  Contracts: corbelref04.Seq.
-/
namespace Go.Proofs.YthlghokgknkpaaaGreatDoor
open Go.RowKit Go.Shelf

theorem grp_len (h g : Int) : (grpL h g).length ≤ 1024 := by
  have := end_range g
  unfold grpL
  rw [List.length_map, List.length_range]
  omega

/-- 'append(s, x)' of one int: it has just been laid in a block of its own. -/
theorem ap_int {ops : Array Oper} {rest : List Oper} {o : Oper} {a : Act} {Q : Exit → Act → World → Prop} (w : World) (hgd : o.guard = none) (s x : Operand)
    (ho : o.op = .call { callee := .builtin .append, args := #[s, x], argTypes := #[112, 112] })
    (B : Nat) (v : Value) (xs : List Int) (z : Int) (hs : a.eval s = v) (hx : a.eval x = .slice (some ⟨w.heap.size, 0, none⟩) 1 1) (hown : OwnsI w B v xs) (hlen : xs.length ≤ 1099511627776) (hB : B ≤ w.heap.size)
    (h : ∀ v' w', OwnsI w' B v' (xs ++ [z]) → Below B w w' → wpList Tryz.prog ops Q rest (a.put o.dst v') w') :
    wpList Tryz.prog ops Q (o :: rest) a (w.alloc (.cells #[.int .i64 z] 3)) := by
  obtain ⟨i, hi, hz, hsize, hby⟩ := info_parts Tryz.infoInt
  refine wpList_append_own _ hgd s x 112 ho B 3 i (.int .i64 0) 1 8 Tryz.underlying112 hi hz hsize hby rfl (by decide) v xs.length (xs.map (Value.int .i64)) hs (World.ownsRow.alloc hown _) ⟨w.heap.size, 0, none⟩ 1 1 [.int .i64 z] hx rfl ?_ ?_ ?_ ?_ ?_ ?_
  · intro j u hj
    match j, hj with
    | 0, hj => simp at hj; subst hj; simp [Addr.add]
  · intro u hu; simp at hu; subst hu; rfl
  · unfold maxLen; omega
  · omega
  · simp; omega
  · intro v' w' hown' hgrow _
    refine h v' w' ?_ ?_
    · unfold OwnsI
      rw [List.length_append, List.length_singleton, List.map_append]
      exact hown'
    · exact ((Below.refl B w).alloc hB _).trans ((Below.refl _ _).grown hgrow (by simp; omega) fun k hk => (World.ownsRow.lt hown k hk).1)

set_option maxRecDepth 10000 in
set_option maxHeartbeats 2000000 in
theorem rseq_any (h g : Int) (w : World) (hh0 : 0 ≤ h) (hh1 : h < 18446744073709551616) (h1 : -9223372036854775808 ≤ g) (h2 : g < 9223372036854775808) :
    Calls Tryz.prog 74 #[.int .u64 h, .int .i64 g] w fun e w' => ∃ v, e = .returned v ∧ OwnsI w' w.heap.size v (grpL h g) ∧ Below w.heap.size w w' := by
  cases hg : isGood g with
  | false =>
    have hL : Hid (grpL h g = []) := by show grpL h g = []; unfold grpL endI; rw [if_neg (by simp [hg])]; rfl
    go_enter Tryz.func74, Tryz.ntmps74
    go_wp2_with (go_at_call 107; refine (rgood_any _ _ (by omega) (by omega)).mono ?_; rintro e w' ⟨rfl, rfl⟩; rw [hg])
    go_ret
    refine ⟨_, rfl, ?_, Below.refl _ _⟩
    rw [hL.out]
    exact OwnsI.nil _ _
  | true =>
    have hr := good_range hg
    have hL : Hid (grpL h g = (List.range g.toNat).map fun i : Nat => atI h i g) := by show grpL h g = _; unfold grpL endI; rw [if_pos hg]
    go_enter Tryz.func74, Tryz.ntmps74
    go_wp2_with (go_at_call 107; refine (rgood_any _ _ (by omega) (by omega)).mono ?_; rintro e w' ⟨rfl, rfl⟩; rw [hg])
    go_loopw [5, 6] (fun l t wr => ∃ j : Nat, (j : Int) ≤ g ∧ t = .int .i64 j ∧ OwnsI wr w'.heap.size l ((List.range j).map fun i : Nat => atI h i g) ∧ Below w'.heap.size w' wr) (fun _ t _ => g.toNat - (intOf t).toNat)
    case atStart => exact ⟨0, by omega, rfl, OwnsI.nil _ _, Below.refl _ _⟩
    case round =>
      obtain ⟨j, hj, rfl, hown, hb⟩ := hrel
      have hll : ((List.range j).map fun i : Nat => atI h i g).length = j := by simp
      by_cases hlt : (j : Int) < g
      · go_wp2_with (first
          | (go_at_call 108; refine (rat_any _ _ _ _ (by omega) (by omega) (by omega) (by omega) (by omega) (by omega)).mono ?_; rintro e w1 ⟨rfl, rfl⟩)
          | (at_builtin; refine ap_int _ rfl (.tmp 14) (.tmp 19) rfl w'.heap.size _ _ _ rfl rfl hown (by omega) hb.size ?_; intro v' w2 hown' hb'))
        go_roundw
        case rel =>
          refine ⟨j + 1, by omega, by simp, ?_, hb.trans hb'⟩
          rw [List.range_succ, List.map_append]
          exact hown'
        case measure => simp only [intOf]; omega
      · obtain rfl : (j : Int) = g := by omega
        go_wp2
        go_ret
        refine ⟨_, rfl, ?_, hb⟩
        rw [hL.out, Int.toNat_natCast]
        exact hown

end Go.Proofs.YthlghokgknkpaaaGreatDoor

/-
  Contracts: corbelref03.Get, Set.
-/
namespace Go.Proofs.YthlghokgknkpaaaGreatDoor
open Go.RowKit

theorem rem8 (i : Int) (k : Nat) (hk : i % 8 = k) : i.tmod 8 = k ∨ (i.tmod 8 = (k : Int) - 8 ∧ 0 < k ∧ k < 8) := by
  rw [Int.tmod_eq_emod]
  split
  · left; omega
  · right
    have : (8 : Int).natAbs = 8 := rfl
    omega

set_option maxHeartbeats 1000000 in
theorem rget_any (n : Nat) (i : Int) (k : Nat) (hk : i % 8 = k) (w : World) (hn : n < 18446744073709551616) : Calls Tryz.prog 75 #[.int .u64 n, .int .i64 i] w fun e w' => e = .returned (.int .u8 (byteN n k)) ∧ w' = w := by
  have hr := rem8 i k hk
  have hk8 : k < 8 := by omega
  clear hk
  rcases hr with hr | ⟨hr, hk0, hk8'⟩
  · obtain rfl | rfl | rfl | rfl | rfl | rfl | rfl | rfl : k = 0 ∨ k = 1 ∨ k = 2 ∨ k = 3 ∨ k = 4 ∨ k = 5 ∨ k = 6 ∨ k = 7 := by omega
    all_goals clear hk8
    all_goals go_enter Tryz.func75, Tryz.ntmps75
    all_goals go_wp2
    all_goals go_ret
    all_goals refine ⟨?_, rfl⟩
    all_goals simp [byteN]
    all_goals omega
  · obtain rfl | rfl | rfl | rfl | rfl | rfl | rfl : k = 1 ∨ k = 2 ∨ k = 3 ∨ k = 4 ∨ k = 5 ∨ k = 6 ∨ k = 7 := by omega
    all_goals clear hk8 hk0 hk8'
    all_goals go_enter Tryz.func75, Tryz.ntmps75
    all_goals go_wp2
    all_goals go_ret
    all_goals refine ⟨?_, rfl⟩
    all_goals simp [byteN]
    all_goals omega

theorem put_lit0 (n c : Nat) (hn : n < 18446744073709551616) (hc : c < 256) : bits .or .u64 (bits .andNot .u64 (n : Int) 255) (c : Int) = ((putN n 0 c : Nat) : Int) := by
  have e2 := put_u64 n 0 c hn (by decide) hc
  simp only [Nat.reducePow, Int.cast_ofNat_Int, Nat.mul_one] at e2
  exact e2
theorem put_lit1 (n c : Nat) (hn : n < 18446744073709551616) (hc : c < 256) : bits .or .u64 (bits .andNot .u64 (n : Int) 65280) ((c : Int) * 256) = ((putN n 1 c : Nat) : Int) := by
  have e2 := put_u64 n 1 c hn (by decide) hc
  simp only [Nat.reducePow, Nat.reduceMul, Int.natCast_mul, Int.cast_ofNat_Int] at e2
  exact e2
theorem put_lit2 (n c : Nat) (hn : n < 18446744073709551616) (hc : c < 256) : bits .or .u64 (bits .andNot .u64 (n : Int) 16711680) ((c : Int) * 65536) = ((putN n 2 c : Nat) : Int) := by
  have e2 := put_u64 n 2 c hn (by decide) hc
  simp only [Nat.reducePow, Nat.reduceMul, Int.natCast_mul, Int.cast_ofNat_Int] at e2
  exact e2
theorem put_lit3 (n c : Nat) (hn : n < 18446744073709551616) (hc : c < 256) : bits .or .u64 (bits .andNot .u64 (n : Int) 4278190080) ((c : Int) * 16777216) = ((putN n 3 c : Nat) : Int) := by
  have e2 := put_u64 n 3 c hn (by decide) hc
  simp only [Nat.reducePow, Nat.reduceMul, Int.natCast_mul, Int.cast_ofNat_Int] at e2
  exact e2
theorem put_lit4 (n c : Nat) (hn : n < 18446744073709551616) (hc : c < 256) : bits .or .u64 (bits .andNot .u64 (n : Int) 1095216660480) ((c : Int) * 4294967296) = ((putN n 4 c : Nat) : Int) := by
  have e2 := put_u64 n 4 c hn (by decide) hc
  simp only [Nat.reducePow, Nat.reduceMul, Int.natCast_mul, Int.cast_ofNat_Int] at e2
  exact e2
theorem put_lit5 (n c : Nat) (hn : n < 18446744073709551616) (hc : c < 256) : bits .or .u64 (bits .andNot .u64 (n : Int) 280375465082880) ((c : Int) * 1099511627776) = ((putN n 5 c : Nat) : Int) := by
  have e2 := put_u64 n 5 c hn (by decide) hc
  simp only [Nat.reducePow, Nat.reduceMul, Int.natCast_mul, Int.cast_ofNat_Int] at e2
  exact e2
theorem put_lit6 (n c : Nat) (hn : n < 18446744073709551616) (hc : c < 256) : bits .or .u64 (bits .andNot .u64 (n : Int) 71776119061217280) ((c : Int) * 281474976710656) = ((putN n 6 c : Nat) : Int) := by
  have e2 := put_u64 n 6 c hn (by decide) hc
  simp only [Nat.reducePow, Nat.reduceMul, Int.natCast_mul, Int.cast_ofNat_Int] at e2
  exact e2
theorem put_lit7 (n c : Nat) (hn : n < 18446744073709551616) (hc : c < 256) : bits .or .u64 (bits .andNot .u64 (n : Int) 18374686479671623680) ((c : Int) * 72057594037927936) = ((putN n 7 c : Nat) : Int) := by
  have e2 := put_u64 n 7 c hn (by decide) hc
  simp only [Nat.reducePow, Nat.reduceMul, Int.natCast_mul, Int.cast_ofNat_Int] at e2
  exact e2

set_option maxHeartbeats 2000000 in
theorem rset_any (n : Nat) (i : Int) (k c : Nat) (hk : i % 8 = k) (w : World) (hn : n < 18446744073709551616) (hc : c < 256) : Calls Tryz.prog 44 #[.int .u64 n, .int .i64 i, .int .u8 c] w fun e w' => e = .returned (.int .u64 (putN n k c)) ∧ w' = w := by
  have hr := rem8 i k hk
  have hk8 : k < 8 := by omega
  clear hk
  rcases hr with hr | ⟨hr, hk0, hk8'⟩
  · obtain rfl | rfl | rfl | rfl | rfl | rfl | rfl | rfl : k = 0 ∨ k = 1 ∨ k = 2 ∨ k = 3 ∨ k = 4 ∨ k = 5 ∨ k = 6 ∨ k = 7 := by omega
    all_goals clear hk8
    · have e1 := put_lit0 n c hn hc
      go_enter Tryz.func44, Tryz.ntmps44
      go_wp2
      go_ret
      refine ⟨?_, rfl⟩
      first | rfl | (show Ending.returned (.int .u64 (bits .or .u64 (bits .andNot .u64 (n : Int) 255) (c : Int))) = _; rw [e1])
    · have e1 := put_lit1 n c hn hc
      go_enter Tryz.func44, Tryz.ntmps44
      go_wp2
      go_ret
      refine ⟨?_, rfl⟩
      first | rfl | (show Ending.returned (.int .u64 (bits .or .u64 (bits .andNot .u64 (n : Int) 65280) ((c : Int) * 256))) = _; rw [e1])
    · have e1 := put_lit2 n c hn hc
      go_enter Tryz.func44, Tryz.ntmps44
      go_wp2
      go_ret
      refine ⟨?_, rfl⟩
      first | rfl | (show Ending.returned (.int .u64 (bits .or .u64 (bits .andNot .u64 (n : Int) 16711680) ((c : Int) * 65536))) = _; rw [e1])
    · have e1 := put_lit3 n c hn hc
      go_enter Tryz.func44, Tryz.ntmps44
      go_wp2
      go_ret
      refine ⟨?_, rfl⟩
      first | rfl | (show Ending.returned (.int .u64 (bits .or .u64 (bits .andNot .u64 (n : Int) 4278190080) ((c : Int) * 16777216))) = _; rw [e1])
    · have e1 := put_lit4 n c hn hc
      go_enter Tryz.func44, Tryz.ntmps44
      go_wp2
      go_ret
      refine ⟨?_, rfl⟩
      first | rfl | (show Ending.returned (.int .u64 (bits .or .u64 (bits .andNot .u64 (n : Int) 1095216660480) ((c : Int) * 4294967296))) = _; rw [e1])
    · have e1 := put_lit5 n c hn hc
      go_enter Tryz.func44, Tryz.ntmps44
      go_wp2
      go_ret
      refine ⟨?_, rfl⟩
      first | rfl | (show Ending.returned (.int .u64 (bits .or .u64 (bits .andNot .u64 (n : Int) 280375465082880) ((c : Int) * 1099511627776))) = _; rw [e1])
    · have e1 := put_lit6 n c hn hc
      go_enter Tryz.func44, Tryz.ntmps44
      go_wp2
      go_ret
      refine ⟨?_, rfl⟩
      first | rfl | (show Ending.returned (.int .u64 (bits .or .u64 (bits .andNot .u64 (n : Int) 71776119061217280) ((c : Int) * 281474976710656))) = _; rw [e1])
    · have e1 := put_lit7 n c hn hc
      go_enter Tryz.func44, Tryz.ntmps44
      go_wp2
      go_ret
      refine ⟨?_, rfl⟩
      first | rfl | (show Ending.returned (.int .u64 (bits .or .u64 (bits .andNot .u64 (n : Int) 18374686479671623680) ((c : Int) * 72057594037927936))) = _; rw [e1])
  · obtain rfl | rfl | rfl | rfl | rfl | rfl | rfl : k = 1 ∨ k = 2 ∨ k = 3 ∨ k = 4 ∨ k = 5 ∨ k = 6 ∨ k = 7 := by omega
    all_goals clear hk8 hk0 hk8'
    · have e1 := put_lit1 n c hn hc
      go_enter Tryz.func44, Tryz.ntmps44
      go_wp2
      go_ret
      refine ⟨?_, rfl⟩
      first | rfl | (show Ending.returned (.int .u64 (bits .or .u64 (bits .andNot .u64 (n : Int) 65280) ((c : Int) * 256))) = _; rw [e1])
    · have e1 := put_lit2 n c hn hc
      go_enter Tryz.func44, Tryz.ntmps44
      go_wp2
      go_ret
      refine ⟨?_, rfl⟩
      first | rfl | (show Ending.returned (.int .u64 (bits .or .u64 (bits .andNot .u64 (n : Int) 16711680) ((c : Int) * 65536))) = _; rw [e1])
    · have e1 := put_lit3 n c hn hc
      go_enter Tryz.func44, Tryz.ntmps44
      go_wp2
      go_ret
      refine ⟨?_, rfl⟩
      first | rfl | (show Ending.returned (.int .u64 (bits .or .u64 (bits .andNot .u64 (n : Int) 4278190080) ((c : Int) * 16777216))) = _; rw [e1])
    · have e1 := put_lit4 n c hn hc
      go_enter Tryz.func44, Tryz.ntmps44
      go_wp2
      go_ret
      refine ⟨?_, rfl⟩
      first | rfl | (show Ending.returned (.int .u64 (bits .or .u64 (bits .andNot .u64 (n : Int) 1095216660480) ((c : Int) * 4294967296))) = _; rw [e1])
    · have e1 := put_lit5 n c hn hc
      go_enter Tryz.func44, Tryz.ntmps44
      go_wp2
      go_ret
      refine ⟨?_, rfl⟩
      first | rfl | (show Ending.returned (.int .u64 (bits .or .u64 (bits .andNot .u64 (n : Int) 280375465082880) ((c : Int) * 1099511627776))) = _; rw [e1])
    · have e1 := put_lit6 n c hn hc
      go_enter Tryz.func44, Tryz.ntmps44
      go_wp2
      go_ret
      refine ⟨?_, rfl⟩
      first | rfl | (show Ending.returned (.int .u64 (bits .or .u64 (bits .andNot .u64 (n : Int) 71776119061217280) ((c : Int) * 281474976710656))) = _; rw [e1])
    · have e1 := put_lit7 n c hn hc
      go_enter Tryz.func44, Tryz.ntmps44
      go_wp2
      go_ret
      refine ⟨?_, rfl⟩
      first | rfl | (show Ending.returned (.int .u64 (bits .or .u64 (bits .andNot .u64 (n : Int) 18374686479671623680) ((c : Int) * 72057594037927936))) = _; rw [e1])
end Go.Proofs.YthlghokgknkpaaaGreatDoor
