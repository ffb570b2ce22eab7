/-
  Contracts: '==' and '!=' of two pairs; slices.Equal and corbelref07.Same of pairs.
-/
import Derived.Test.YtomhmoedicajoaaCmP
import Derived.Laws.StructEq
import Derived.Shelf.SlicesE.Equal
import Derived.Shelf.RegionOpenPlain
import Derived.Deep.LoopGhost
namespace Go.Proofs.Ytomhmoedicajoaa
open Go.RowKit Go.Shelf Go.Lib

theorem toList_ne {a b : ByteArray} : a.toList = b.toList ↔ a = b := ⟨data_inj, fun h => by rw [h]⟩
theorem eqlP : EqlAt Try.prog 67 (fun x : ByteArray × ByteArray => .agg (encP x).toArray) (fun x y => decide (x = y)) := by
  refine ⟨fun x y w => ?_, GuardAt.agg _ (by kernel_rfl)⟩
  have u9 := Try.underlying9
  have a9 := Try.isAgg9
  have z9 := Try.sizeOf9
  have hS : Try.prog.underlying 67 = some (.struct (Try.prog.fieldsOf 67)) := by kernel_rfl
  have hp : Try.prog.stoodInHeld 67 = false := by kernel_rfl
  obtain ⟨xk, xv⟩ := x
  obtain ⟨yk, yv⟩ := y
  simp only [encP]
  rw [run_eql_struct, show (10000 : Nat) = 9999 + 1 from rfl, run_equalIn_agg w 9999 67 _ _ hS hp]
  simp only [Program.fieldsOf, Try.underlying67]
  go_simp
  by_cases h1 : xk = yk <;> by_cases h2 : xv = yv <;> simp [h1, h2, toList_ne]
theorem neqP : NeqAt Try.prog 67 (fun x : ByteArray × ByteArray => .agg (encP x).toArray) (fun x y => decide (x = y)) := by
  refine ⟨fun x y w => ?_, eqlP.2⟩
  have h := eqlP.1 x y w
  rw [run_eql_struct] at h
  rw [run_neq_struct]
  generalize Sem.run Try.prog (Op.equalIn 10000 67 (.agg (encP x).toArray) (.agg (encP y).toArray)) w = r at h ⊢
  cases r with
  | ok b w' =>
    simp only [Result.andThen, Result.ok.injEq, Value.bool.injEq] at h ⊢
    obtain ⟨h1, h2⟩ := h
    exact ⟨by rw [h1], h2⟩
  | _ => cases h

set_option maxRecDepth 100000 in
set_option maxHeartbeats 2000000 in
theorem equal_any (u v : Value) (xs ys : List (ByteArray × ByteArray)) (w : World) (hx : HasP w u xs) (hy : HasP w v ys) (lx : xs.length ≤ 1099511627776) (_ly : ys.length ≤ 1099511627776) :
    Calls Try.prog 52 #[u, v] w fun e w' => e = .returned (.bool (decide (xs = ys))) ∧ Below w.heap.size w w' := by
  have hne : ∀ (a b : ByteArray × ByteArray) (W : World), Sem.run Try.prog (binOp .neq 67 (.agg #[.string a.1, .string a.2]) (.agg #[.string b.1, .string b.2])) W = .ok (.bool (!decide (a = b))) W := neqP.1
  have hgd : ∀ (op : BinOp) (o1 o2 : Operand) (a b : ByteArray × ByteArray) (W : World), Sem.run Try.prog (eqGuard op 67 o1 o2 (.agg #[.string a.1, .string a.2]) (.agg #[.string b.1, .string b.2])) W = .ok () W := neqP.2
  have hmix : Try.prog.follows Departure.mixedOrders = true := by kernel_rfl
  obtain ⟨pu, cu, rfl, -, -, -⟩ := id hx
  obtain ⟨pv, cv, rfl, -, -, -⟩ := id hy
  by_cases hnm : xs.length = ys.length
  · have hX : Hid (HasP w (.slice pu xs.length cu) xs) := hx
    have hY : Hid (HasP w (.slice pv xs.length cv) ys) := by rw [Hid, hnm]; exact hy
    have HL : Hid (xs.length = ys.length) := hnm
    rw [← hnm]
    clear hx hy hnm
    go_enter Try.func52, Try.ntmps52
    go_wp2
    go_loopg [13] xs.length (fun g s13 wr => ∃ kk q : Nat, kk ≤ xs.length ∧ xs.length - kk ≤ g ∧ s13 = .int .i64 (kk : Nat) ∧ wr = w.drewN q ∧ Hid (xs.take kk = ys.take kk))
    case atStart => exact ⟨0, 0, Nat.zero_le _, by omega, rfl, rfl, rfl⟩
    case round =>
      obtain ⟨kk, q, hkk, hg, rfl, rfl, A⟩ := hrel
      by_cases hlt : kk < xs.length
      · obtain ⟨b1, o1, rfl, hb1, hc1, -, k1, k2⟩ := hX.out.at (j := kk) hlt
        obtain ⟨b2, o2, rfl, hb2, hc2, -, k3, k4⟩ := hY.out.at (j := kk) hlt
        have T1 : Hid (xs.take kk ++ [xs.getD kk default] = xs.take (kk + 1)) := ptake_snoc hlt
        have T2 : Hid (ys.take kk ++ [ys.getD kk default] = ys.take (kk + 1)) := ptake_snoc (by rw [← HL.out]; exact hlt)
        generalize xs.getD kk default = x at *
        generalize ys.getD kk default = y at *
        obtain ⟨xk, xv⟩ := x
        obtain ⟨yk, yv⟩ := y
        dsimp only at k1 k2 k3 k4
        have hne1 := fun W => hne (xk, xv) (yk, yv) W
        have hgd1 := fun op o1 o2 W => hgd op o1 o2 (xk, xv) (yk, yv) W
        clear hne hgd
        dsimp only at hne1 hgd1
        have g1 : (w.drewN q).cell? ⟨b1, o1 + kk * 2, none⟩ = some (.string xk) := k1
        have g2 : (w.drewN q).cell? ⟨b1, o1 + kk * 2 + 1, none⟩ = some (.string xv) := k2
        have g3 : (w.drewN q).cell? ⟨b2, o2 + kk * 2, none⟩ = some (.string yk) := k3
        have g4 : (w.drewN q).cell? ⟨b2, o2 + kk * 2 + 1, none⟩ = some (.string yv) := k4
        clear k1 k2 k3 k4
        generalize hwq : w.drewN q = wq at g1 g2 g3 g4 ⊢
        have HW : Hid (w.drewN q = wq) := hwq
        clear hwq
        by_cases hxy : (xk, xv) = (yk, yv)
        · have hd : decide ((xk, xv) = (yk, yv)) = true := decide_eq_true hxy
          rw [hd] at hne1
          have HXY : Hid ((xk, xv) = (yk, yv)) := hxy
          clear hxy hd
          go_wp2_with fail
          go_quiet_o (fail)
          go_wp2
          go_roundg (xs.length - (kk + 1))
          case measure => omega
          case rel => exact ⟨kk + 1, q + nq, by omega, Nat.le_refl _, by go_num, by rw [← HW.out, World.drewN_drewN], by rw [Hid, ← T1.out, ← T2.out, A.out, HXY.out]⟩
        · have hd : decide ((xk, xv) = (yk, yv)) = false := decide_eq_false hxy
          rw [hd] at hne1
          have HXY : Hid ((xk, xv) ≠ (yk, yv)) := hxy
          clear hxy hd
          go_wp2_with fail
          go_quiet_o (fail)
          go_wp2
          go_ret
          refine ⟨?_, by rw [← HW.out, World.drewN_drewN]; exact below_drewN (Below.refl _ _) _⟩
          rw [decide_eq_false]
          · rfl
          · rintro rfl
            have h2 := T2.out.trans T1.out.symm
            simp at h2
            exact HXY.out (by rw [Prod.mk.injEq]; exact ⟨h2.1.symm, h2.2.symm⟩)
      · have hk : kk = xs.length := by omega
        have hA : Hid (xs = ys) := by
          have := A.out
          rw [hk, List.take_length, HL.out, List.take_length] at this
          exact this
        have hd : Hid (decide (xs = ys) = true) := decide_eq_true hA.out
        subst hk
        clear hA A HL
        go_wp2
        go_ret
        rw [hd.out]
        exact ⟨rfl, below_drewN (Below.refl _ _) _⟩
  · have hd : Hid (decide (xs = ys) = false) := decide_eq_false fun e => hnm (by rw [e])
    have hnm' : ¬ (xs.length : Int) = (ys.length : Int) := by omega
    clear hx hy
    go_enter Try.func52, Try.ntmps52
    go_wp2
    go_ret
    rw [hd.out]
    exact ⟨rfl, Below.refl _ _⟩

set_option maxRecDepth 100000 in
set_option maxHeartbeats 2000000 in
theorem rsame_any (u v : Value) (xs ys : List (ByteArray × ByteArray)) (w : World) (hx : HasP w u xs) (hy : HasP w v ys) (lx : xs.length ≤ 1099511627776) (_ly : ys.length ≤ 1099511627776) :
    Calls Try.prog 51 #[u, v] w fun e w' => e = .returned (.bool (decide (xs = ys))) ∧ Below w.heap.size w w' := by
  have hne : ∀ (a b : ByteArray × ByteArray) (W : World), Sem.run Try.prog (binOp .neq 67 (.agg #[.string a.1, .string a.2]) (.agg #[.string b.1, .string b.2])) W = .ok (.bool (!decide (a = b))) W := neqP.1
  have hgd : ∀ (op : BinOp) (o1 o2 : Operand) (a b : ByteArray × ByteArray) (W : World), Sem.run Try.prog (eqGuard op 67 o1 o2 (.agg #[.string a.1, .string a.2]) (.agg #[.string b.1, .string b.2])) W = .ok () W := neqP.2
  have hmix : Try.prog.follows Departure.mixedOrders = true := by kernel_rfl
  obtain ⟨pu, cu, rfl, -, -, -⟩ := id hx
  obtain ⟨pv, cv, rfl, -, -, -⟩ := id hy
  by_cases hnm : xs.length = ys.length
  · have hX : Hid (HasP w (.slice pu xs.length cu) xs) := hx
    have hY : Hid (HasP w (.slice pv xs.length cv) ys) := by rw [Hid, hnm]; exact hy
    have HL : Hid (xs.length = ys.length) := hnm
    rw [← hnm]
    clear hx hy hnm
    go_enter Try.func51, Try.ntmps51
    go_wp2
    go_loopg [13] xs.length (fun g s13 wr => ∃ kk q : Nat, kk ≤ xs.length ∧ xs.length - kk ≤ g ∧ s13 = .int .i64 (kk : Nat) ∧ wr = w.drewN q ∧ Hid (xs.take kk = ys.take kk))
    case atStart => exact ⟨0, 0, Nat.zero_le _, by omega, rfl, rfl, rfl⟩
    case round =>
      obtain ⟨kk, q, hkk, hg, rfl, rfl, A⟩ := hrel
      by_cases hlt : kk < xs.length
      · obtain ⟨b1, o1, rfl, hb1, hc1, -, k1, k2⟩ := hX.out.at (j := kk) hlt
        obtain ⟨b2, o2, rfl, hb2, hc2, -, k3, k4⟩ := hY.out.at (j := kk) hlt
        have T1 : Hid (xs.take kk ++ [xs.getD kk default] = xs.take (kk + 1)) := ptake_snoc hlt
        have T2 : Hid (ys.take kk ++ [ys.getD kk default] = ys.take (kk + 1)) := ptake_snoc (by rw [← HL.out]; exact hlt)
        generalize xs.getD kk default = x at *
        generalize ys.getD kk default = y at *
        obtain ⟨xk, xv⟩ := x
        obtain ⟨yk, yv⟩ := y
        dsimp only at k1 k2 k3 k4
        have hne1 := fun W => hne (xk, xv) (yk, yv) W
        have hgd1 := fun op o1 o2 W => hgd op o1 o2 (xk, xv) (yk, yv) W
        clear hne hgd
        dsimp only at hne1 hgd1
        have g1 : (w.drewN q).cell? ⟨b1, o1 + kk * 2, none⟩ = some (.string xk) := k1
        have g2 : (w.drewN q).cell? ⟨b1, o1 + kk * 2 + 1, none⟩ = some (.string xv) := k2
        have g3 : (w.drewN q).cell? ⟨b2, o2 + kk * 2, none⟩ = some (.string yk) := k3
        have g4 : (w.drewN q).cell? ⟨b2, o2 + kk * 2 + 1, none⟩ = some (.string yv) := k4
        clear k1 k2 k3 k4
        generalize hwq : w.drewN q = wq at g1 g2 g3 g4 ⊢
        have HW : Hid (w.drewN q = wq) := hwq
        clear hwq
        by_cases hxy : (xk, xv) = (yk, yv)
        · have hd : decide ((xk, xv) = (yk, yv)) = true := decide_eq_true hxy
          rw [hd] at hne1
          have HXY : Hid ((xk, xv) = (yk, yv)) := hxy
          clear hxy hd
          go_wp2_with fail
          go_quiet_o (fail)
          go_wp2
          go_roundg (xs.length - (kk + 1))
          case measure => omega
          case rel => exact ⟨kk + 1, q + nq, by omega, Nat.le_refl _, by go_num, by rw [← HW.out, World.drewN_drewN], by rw [Hid, ← T1.out, ← T2.out, A.out, HXY.out]⟩
        · have hd : decide ((xk, xv) = (yk, yv)) = false := decide_eq_false hxy
          rw [hd] at hne1
          have HXY : Hid ((xk, xv) ≠ (yk, yv)) := hxy
          clear hxy hd
          go_wp2_with fail
          go_quiet_o (fail)
          go_wp2
          go_ret
          refine ⟨?_, by rw [← HW.out, World.drewN_drewN]; exact below_drewN (Below.refl _ _) _⟩
          rw [decide_eq_false]
          · rfl
          · rintro rfl
            have h2 := T2.out.trans T1.out.symm
            simp at h2
            exact HXY.out (by rw [Prod.mk.injEq]; exact ⟨h2.1.symm, h2.2.symm⟩)
      · have hk : kk = xs.length := by omega
        have hA : Hid (xs = ys) := by
          have := A.out
          rw [hk, List.take_length, HL.out, List.take_length] at this
          exact this
        have hd : Hid (decide (xs = ys) = true) := decide_eq_true hA.out
        subst hk
        clear hA A HL
        go_wp2
        go_ret
        rw [hd.out]
        exact ⟨rfl, below_drewN (Below.refl _ _) _⟩
  · have hd : Hid (decide (xs = ys) = false) := decide_eq_false fun e => hnm (by rw [e])
    have hnm' : ¬ (xs.length : Int) = (ys.length : Int) := by omega
    clear hx hy
    go_enter Try.func51, Try.ntmps51
    go_wp2
    go_ret
    rw [hd.out]
    exact ⟨rfl, Below.refl _ _⟩

end Go.Proofs.Ytomhmoedicajoaa
