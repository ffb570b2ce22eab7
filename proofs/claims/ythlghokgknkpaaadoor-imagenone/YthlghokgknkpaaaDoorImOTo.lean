import Derived.Test.YthlghokgknkpaaaDoorW1To
import Derived.Laws.StructEq
import Derived.Shelf.SlicesE.Equal
import Derived.Shelf.RegionOpenPlain
import Derived.Deep.LoopGhost
import Derived.Shelf.SlicesE.Clone
import Derived.Ground.SlgnProg
import Derived.Test.YthlghokgknkpaaaDoorImMTo
/-
  Contracts: '==' and '!=' of two pairs; slices.Equal and corbelref07.Same of pairs; image.Same of whatever Pairs tells.
-/
namespace Go.Proofs.YthlghokgknkpaaaDoor
open Go.RowKit Go.Shelf Go.Lib

theorem toList_ne {a b : ByteArray} : a.toList = b.toList ↔ a = b := ⟨data_inj, fun h => by rw [h]⟩
theorem eqlP : EqlAt Tryd.prog 33 (fun x : ByteArray × ByteArray => .agg (encP x).toArray) (fun x y => decide (x = y)) := by
  refine ⟨fun x y w => ?_, GuardAt.agg _ (by kernel_rfl)⟩
  have u9 := Tryd.underlying9
  have a9 := Tryd.isAgg9
  have z9 := Tryd.sizeOf9
  have hS : Tryd.prog.underlying 33 = some (.struct (Tryd.prog.fieldsOf 33)) := by kernel_rfl
  have hp : Tryd.prog.stoodInHeld 33 = false := by kernel_rfl
  obtain ⟨xk, xv⟩ := x
  obtain ⟨yk, yv⟩ := y
  simp only [encP]
  rw [run_eql_struct, show (10000 : Nat) = 9999 + 1 from rfl, run_equalIn_agg w 9999 33 _ _ hS hp]
  simp only [Program.fieldsOf, Tryd.underlying33]
  go_simp
  by_cases h1 : xk = yk <;> by_cases h2 : xv = yv <;> simp [h1, h2, toList_ne]
theorem neqP : NeqAt Tryd.prog 33 (fun x : ByteArray × ByteArray => .agg (encP x).toArray) (fun x y => decide (x = y)) := by
  refine ⟨fun x y w => ?_, eqlP.2⟩
  have h := eqlP.1 x y w
  rw [run_eql_struct] at h
  rw [run_neq_struct]
  generalize Sem.run Tryd.prog (Op.equalIn 10000 33 (.agg (encP x).toArray) (.agg (encP y).toArray)) w = r at h ⊢
  cases r with
  | ok b w' =>
    simp only [Result.andThen, Result.ok.injEq, Value.bool.injEq] at h ⊢
    obtain ⟨h1, h2⟩ := h
    exact ⟨by rw [h1], h2⟩
  | _ => cases h

set_option maxRecDepth 100000 in
set_option maxHeartbeats 2000000 in
theorem equal_any (u v : Value) (xs ys : List (ByteArray × ByteArray)) (w : World) (hx : HasP w u xs) (hy : HasP w v ys) (lx : xs.length ≤ 1099511627776) (_ly : ys.length ≤ 1099511627776) :
    Calls Tryd.prog 33 #[u, v] w fun e w' => e = .returned (.bool (decide (xs = ys))) ∧ Below w.heap.size w w' := by
  have hne : ∀ (a b : ByteArray × ByteArray) (W : World), Sem.run Tryd.prog (binOp .neq 33 (.agg #[.string a.1, .string a.2]) (.agg #[.string b.1, .string b.2])) W = .ok (.bool (!decide (a = b))) W := neqP.1
  have hgd : ∀ (op : BinOp) (o1 o2 : Operand) (a b : ByteArray × ByteArray) (W : World), Sem.run Tryd.prog (eqGuard op 33 o1 o2 (.agg #[.string a.1, .string a.2]) (.agg #[.string b.1, .string b.2])) W = .ok () W := neqP.2
  have hmix : Tryd.prog.follows Departure.mixedOrders = true := by kernel_rfl
  obtain ⟨pu, cu, rfl, -, -, -⟩ := id hx
  obtain ⟨pv, cv, rfl, -, -, -⟩ := id hy
  by_cases hnm : xs.length = ys.length
  · have hX : Hid (HasP w (.slice pu xs.length cu) xs) := hx
    have hY : Hid (HasP w (.slice pv xs.length cv) ys) := by rw [Hid, hnm]; exact hy
    have HL : Hid (xs.length = ys.length) := hnm
    rw [← hnm]
    clear hx hy hnm
    go_enter Tryd.func33, Tryd.ntmps33
    go_wp2
    go_loopg [13] xs.length (fun g s13 wr => ∃ kk q : Nat, kk ≤ xs.length ∧ xs.length - kk ≤ g ∧ s13 = .int .i64 (kk : Nat) ∧ wr = w.drewN q ∧ Hid (xs.take kk = ys.take kk))
    case atStart => exact ⟨0, 0, Nat.zero_le _, by omega, rfl, rfl, rfl⟩
    case round =>
      obtain ⟨kk, q, hkk, hg, rfl, rfl, A⟩ := hrel
      by_cases hlt : kk < xs.length
      · obtain ⟨b1, o1, rfl, hb1, hc1, -, k1, k2⟩ := hX.out.at (j := kk) hlt
        obtain ⟨b2, o2, rfl, hb2, hc2, -, k3, k4⟩ := hY.out.at (j := kk) hlt
        have T1 : Hid (xs.take kk ++ [xs.getD kk default] = xs.take (kk + 1)) := ptake_snoc hlt
        have T2 : Hid (ys.take kk ++ [ys.getD kk default] = ys.take (kk + 1)) := ptake_snoc (by rw [← HL.out]; exact hlt)
        generalize xs.getD kk default = x at *
        generalize ys.getD kk default = y at *
        obtain ⟨xk, xv⟩ := x
        obtain ⟨yk, yv⟩ := y
        dsimp only at k1 k2 k3 k4
        have hne1 := fun W => hne (xk, xv) (yk, yv) W
        have hgd1 := fun op o1 o2 W => hgd op o1 o2 (xk, xv) (yk, yv) W
        clear hne hgd
        dsimp only at hne1 hgd1
        have g1 : (w.drewN q).cell? ⟨b1, o1 + kk * 2, none⟩ = some (.string xk) := k1
        have g2 : (w.drewN q).cell? ⟨b1, o1 + kk * 2 + 1, none⟩ = some (.string xv) := k2
        have g3 : (w.drewN q).cell? ⟨b2, o2 + kk * 2, none⟩ = some (.string yk) := k3
        have g4 : (w.drewN q).cell? ⟨b2, o2 + kk * 2 + 1, none⟩ = some (.string yv) := k4
        clear k1 k2 k3 k4
        generalize hwq : w.drewN q = wq at g1 g2 g3 g4 ⊢
        have HW : Hid (w.drewN q = wq) := hwq
        clear hwq
        by_cases hxy : (xk, xv) = (yk, yv)
        · have hd : decide ((xk, xv) = (yk, yv)) = true := decide_eq_true hxy
          rw [hd] at hne1
          have HXY : Hid ((xk, xv) = (yk, yv)) := hxy
          clear hxy hd
          go_wp2_with fail
          go_quiet_o (fail)
          go_wp2
          go_roundg (xs.length - (kk + 1))
          case measure => omega
          case rel => exact ⟨kk + 1, q + nq, by omega, Nat.le_refl _, by go_num, by rw [← HW.out, World.drewN_drewN], by rw [Hid, ← T1.out, ← T2.out, A.out, HXY.out]⟩
        · have hd : decide ((xk, xv) = (yk, yv)) = false := decide_eq_false hxy
          rw [hd] at hne1
          have HXY : Hid ((xk, xv) ≠ (yk, yv)) := hxy
          clear hxy hd
          go_wp2_with fail
          go_quiet_o (fail)
          go_wp2
          go_ret
          refine ⟨?_, by rw [← HW.out, World.drewN_drewN]; exact below_drewN (Below.refl _ _) _⟩
          rw [decide_eq_false]
          · rfl
          · rintro rfl
            have h2 := T2.out.trans T1.out.symm
            simp at h2
            exact HXY.out (by rw [Prod.mk.injEq]; exact ⟨h2.1.symm, h2.2.symm⟩)
      · have hk : kk = xs.length := by omega
        have hA : Hid (xs = ys) := by
          have := A.out
          rw [hk, List.take_length, HL.out, List.take_length] at this
          exact this
        have hd : Hid (decide (xs = ys) = true) := decide_eq_true hA.out
        subst hk
        clear hA A HL
        go_wp2
        go_ret
        rw [hd.out]
        exact ⟨rfl, below_drewN (Below.refl _ _) _⟩
  · have hd : Hid (decide (xs = ys) = false) := decide_eq_false fun e => hnm (by rw [e])
    have hnm' : ¬ (xs.length : Int) = (ys.length : Int) := by omega
    clear hx hy
    go_enter Tryd.func33, Tryd.ntmps33
    go_wp2
    go_ret
    rw [hd.out]
    exact ⟨rfl, Below.refl _ _⟩

set_option maxRecDepth 100000 in
set_option maxHeartbeats 2000000 in
theorem rsame_any (u v : Value) (xs ys : List (ByteArray × ByteArray)) (w : World) (hx : HasP w u xs) (hy : HasP w v ys) (lx : xs.length ≤ 1099511627776) (_ly : ys.length ≤ 1099511627776) :
    Calls Tryd.prog 14 #[u, v] w fun e w' => e = .returned (.bool (decide (xs = ys))) ∧ Below w.heap.size w w' := by
  have hne : ∀ (a b : ByteArray × ByteArray) (W : World), Sem.run Tryd.prog (binOp .neq 33 (.agg #[.string a.1, .string a.2]) (.agg #[.string b.1, .string b.2])) W = .ok (.bool (!decide (a = b))) W := neqP.1
  have hgd : ∀ (op : BinOp) (o1 o2 : Operand) (a b : ByteArray × ByteArray) (W : World), Sem.run Tryd.prog (eqGuard op 33 o1 o2 (.agg #[.string a.1, .string a.2]) (.agg #[.string b.1, .string b.2])) W = .ok () W := neqP.2
  have hmix : Tryd.prog.follows Departure.mixedOrders = true := by kernel_rfl
  obtain ⟨pu, cu, rfl, -, -, -⟩ := id hx
  obtain ⟨pv, cv, rfl, -, -, -⟩ := id hy
  by_cases hnm : xs.length = ys.length
  · have hX : Hid (HasP w (.slice pu xs.length cu) xs) := hx
    have hY : Hid (HasP w (.slice pv xs.length cv) ys) := by rw [Hid, hnm]; exact hy
    have HL : Hid (xs.length = ys.length) := hnm
    rw [← hnm]
    clear hx hy hnm
    go_enter Tryd.func14, Tryd.ntmps14
    go_wp2
    go_loopg [13] xs.length (fun g s13 wr => ∃ kk q : Nat, kk ≤ xs.length ∧ xs.length - kk ≤ g ∧ s13 = .int .i64 (kk : Nat) ∧ wr = w.drewN q ∧ Hid (xs.take kk = ys.take kk))
    case atStart => exact ⟨0, 0, Nat.zero_le _, by omega, rfl, rfl, rfl⟩
    case round =>
      obtain ⟨kk, q, hkk, hg, rfl, rfl, A⟩ := hrel
      by_cases hlt : kk < xs.length
      · obtain ⟨b1, o1, rfl, hb1, hc1, -, k1, k2⟩ := hX.out.at (j := kk) hlt
        obtain ⟨b2, o2, rfl, hb2, hc2, -, k3, k4⟩ := hY.out.at (j := kk) hlt
        have T1 : Hid (xs.take kk ++ [xs.getD kk default] = xs.take (kk + 1)) := ptake_snoc hlt
        have T2 : Hid (ys.take kk ++ [ys.getD kk default] = ys.take (kk + 1)) := ptake_snoc (by rw [← HL.out]; exact hlt)
        generalize xs.getD kk default = x at *
        generalize ys.getD kk default = y at *
        obtain ⟨xk, xv⟩ := x
        obtain ⟨yk, yv⟩ := y
        dsimp only at k1 k2 k3 k4
        have hne1 := fun W => hne (xk, xv) (yk, yv) W
        have hgd1 := fun op o1 o2 W => hgd op o1 o2 (xk, xv) (yk, yv) W
        clear hne hgd
        dsimp only at hne1 hgd1
        have g1 : (w.drewN q).cell? ⟨b1, o1 + kk * 2, none⟩ = some (.string xk) := k1
        have g2 : (w.drewN q).cell? ⟨b1, o1 + kk * 2 + 1, none⟩ = some (.string xv) := k2
        have g3 : (w.drewN q).cell? ⟨b2, o2 + kk * 2, none⟩ = some (.string yk) := k3
        have g4 : (w.drewN q).cell? ⟨b2, o2 + kk * 2 + 1, none⟩ = some (.string yv) := k4
        clear k1 k2 k3 k4
        generalize hwq : w.drewN q = wq at g1 g2 g3 g4 ⊢
        have HW : Hid (w.drewN q = wq) := hwq
        clear hwq
        by_cases hxy : (xk, xv) = (yk, yv)
        · have hd : decide ((xk, xv) = (yk, yv)) = true := decide_eq_true hxy
          rw [hd] at hne1
          have HXY : Hid ((xk, xv) = (yk, yv)) := hxy
          clear hxy hd
          go_wp2_with fail
          go_quiet_o (fail)
          go_wp2
          go_roundg (xs.length - (kk + 1))
          case measure => omega
          case rel => exact ⟨kk + 1, q + nq, by omega, Nat.le_refl _, by go_num, by rw [← HW.out, World.drewN_drewN], by rw [Hid, ← T1.out, ← T2.out, A.out, HXY.out]⟩
        · have hd : decide ((xk, xv) = (yk, yv)) = false := decide_eq_false hxy
          rw [hd] at hne1
          have HXY : Hid ((xk, xv) ≠ (yk, yv)) := hxy
          clear hxy hd
          go_wp2_with fail
          go_quiet_o (fail)
          go_wp2
          go_ret
          refine ⟨?_, by rw [← HW.out, World.drewN_drewN]; exact below_drewN (Below.refl _ _) _⟩
          rw [decide_eq_false]
          · rfl
          · rintro rfl
            have h2 := T2.out.trans T1.out.symm
            simp at h2
            exact HXY.out (by rw [Prod.mk.injEq]; exact ⟨h2.1.symm, h2.2.symm⟩)
      · have hk : kk = xs.length := by omega
        have hA : Hid (xs = ys) := by
          have := A.out
          rw [hk, List.take_length, HL.out, List.take_length] at this
          exact this
        have hd : Hid (decide (xs = ys) = true) := decide_eq_true hA.out
        subst hk
        clear hA A HL
        go_wp2
        go_ret
        rw [hd.out]
        exact ⟨rfl, below_drewN (Below.refl _ _) _⟩
  · have hd : Hid (decide (xs = ys) = false) := decide_eq_false fun e => hnm (by rw [e])
    have hnm' : ¬ (xs.length : Int) = (ys.length : Int) := by omega
    clear hx hy
    go_enter Tryd.func14, Tryd.ntmps14
    go_wp2
    go_ret
    rw [hd.out]
    exact ⟨rfl, Below.refl _ _⟩

end Go.Proofs.YthlghokgknkpaaaDoor

/-
  Contracts: slices.Clone of pairs; image.Range of whatever Pairs tells.
-/
namespace Go.Proofs.YthlghokgknkpaaaDoor
open Go.RowKit Go.Shelf

shelf_lay_g SlLaysE0.n41 Slgn 41 at Tryd 30 as cloneL

theorem clone_any (b o n c : Nat) (l : List (ByteArray × ByteArray)) (w : World) (h : HasP w (.slice (some ⟨b, o, none⟩) n c) l) (h0 : 0 < n) (hn : n ≤ 1099511627776) :
    Calls Tryd.prog 30 #[.slice (some ⟨b, o, none⟩) n c] w fun e w' => ∃ v, e = .returned v ∧ OwnsP w' w.heap.size v l ∧ Below w.heap.size w w' := by
  obtain ⟨i1, hi1, hz1, hs1, hb1⟩ := info_parts infoP
  obtain ⟨p, c', e, h1, _, h3⟩ := h
  simp only [Value.slice.injEq] at e
  obtain ⟨rfl, rfl, rfl⟩ := e
  obtain ⟨b', o', e, hlt, hc⟩ := h3 h0
  simp only [Option.some.injEq, Addr.mk.injEq] at e
  obtain ⟨rfl, rfl, _⟩ := e
  have hcon := AnyE.slices_Clone cloneL i1 (.agg #[.string ⟨#[]⟩, .string ⟨#[]⟩]) 2 32 hi1 hz1 hs1 hb1 rfl (by decide) Tryd.sizeOf33 b o l.length c (pairsV l) w (pairsV_length l) (by unfold maxLen; omega) (by omega) hc (pairsV_one l)
  change Calls Tryd.prog 30 _ _ _ at hcon
  refine hcon.mono ?_
  rintro e w' ⟨v', rfl, ho, _, hb⟩
  exact ⟨v', rfl, ho, hb⟩

theorem not_empty {u : ByteArray} (hu : u ≠ ⟨#[]⟩) : u.toList.isEmpty = false := by
  cases h : u.toList.isEmpty with
  | false => rfl
  | true =>
    have h' : u.toList = [] := by simpa using h
    refine absurd (data_inj (b := ⟨#[]⟩) (h'.trans ?_)) hu
    rw [Lib.toList_data]

set_option maxRecDepth 100000 in
set_option maxHeartbeats 2000000 in
theorem range_of (p : Option Addr) (l : List (ByteArray × ByteArray)) (f u : ByteArray) (n : Int) (w : World) (hP : Calls Tryd.prog 10 #[.pointer p] w fun e w' => ∃ v, e = .returned v ∧ OwnsP w' w.heap.size v l ∧ Below w.heap.size w w')
    (hr : Rise l) (hl : l.length ≤ 1073741824) (hn : -9223372036854775808 ≤ n ∧ n ≤ 9223372036854775807) :
    Calls Tryd.prog 13 #[.pointer p, .string f, .string u, .int .i64 n] w fun e w' => ∃ v, e = .returned v ∧ OwnsP w' w.heap.size v (cutL l f u n) ∧ Below w.heap.size w w' := by
  have hPf := plc_le l f
  have hPu := plc_le l u
  have hEl := endP_le l u
  have HE : Hid (endP l u = if u = ⟨#[]⟩ then l.length else plc l u) := rfl
  have Hc : Hid (∀ c : Nat, (c : Int) = min ((endP l u : Int) - plc l f) n → (l.drop (plc l f)).take c = cutL l f u n) := fun c hc => cut_prog hr f u n c hc
  have Hn : Hid (min ((endP l u : Int) - plc l f) n < 1 → cutL l f u n = []) := cut_none hr f u n
  have Hr : Hid (Rise l) := hr
  clear hr
  go_enter Tryd.func13, Tryd.ntmps13
  go_wp2_with fail
  refine hP.mono ?_
  rintro e w1 ⟨v, rfl, ho, hb1⟩
  obtain ⟨pp, cc, rfl, hlc, hnone, _⟩ := id ho.has
  have hplc1 := place_any pp l.length cc l f w1 ho.has Hr.out (by omega)
  go_wp2_with fail
  refine hplc1.mono ?_
  rintro e w2 ⟨rfl, hb2⟩
  have ho2 := ho.below hb2 (Nat.le_refl _)
  have hplc2 := place_any pp l.length cc l u w2 ho2.has Hr.out (by omega)
  clear hplc1 hP ho
  by_cases hu : u = ⟨#[]⟩
  · subst hu
    have HE0 : Hid (endP l ⟨#[]⟩ = l.length) := by rw [Hid, HE.out, if_pos rfl]
    have hbel := hb1.trans (hb2.mono hb1.size)
    have hmin : min (((l.length : Nat) : Int) - ((plc l f : Nat) : Int)) n = min ((endP l ⟨#[]⟩ : Int) - plc l f) n := by rw [HE0.out]
    generalize hm : min ((endP l ⟨#[]⟩ : Int) - plc l f) n = m at *
    have Hm : Hid (min ((endP l ⟨#[]⟩ : Int) - plc l f) n = m) := hm
    have hmE : Hid (m ≤ ((l.length : Nat) : Int) - ((plc l f : Nat) : Int) ∧ m ≤ n) := by rw [Hid, ← hmin]; omega
    clear hm
    by_cases hc : m < 1
    · go_wp2
      go_ret
      rw [Hn.out hc]
      exact ⟨_, rfl, OwnsP.nil0 _ _, hbel⟩
    · obtain ⟨C, rfl⟩ := Int.eq_ofNat_of_zero_le (show 0 ≤ m by omega)
      have hCb := hmE.out
      have hC1 : plc l f + C ≤ l.length := by omega
      obtain ⟨bb, oo, rfl, hbb, -, -, -, -⟩ := ho2.has.at (j := 0) (by omega)
      have hcut := ho2.has.cut (plc l f) C hC1
      rw [Hc.out C rfl] at hcut
      have hcl := clone_any bb (oo + plc l f * 2) C (cc - plc l f) _ w2 hcut (by omega) (by omega)
      clear hcut Hc Hn HE HE0 Hm hmE hCb
      generalize plc l f = F at *
      have hi1 : ((F : Int) + (C : Int)).toNat - F = C := by omega
      have hi2 : (F : Int) + C ≤ cc := by omega
      go_wp2_with fail
      refine hcl.mono ?_
      rintro e w9 ⟨v9, rfl, ho9, hb9⟩
      go_wp2
      go_ret
      exact ⟨_, rfl, ho9.mono (hbel).size, (hbel).trans (hb9.mono (hbel).size)⟩
  · have HE0 : Hid (endP l u = plc l u) := by rw [Hid, HE.out, if_neg hu]
    have hu2 : u.toList.isEmpty = false := not_empty hu
    go_wp2_with fail
    refine hplc2.mono ?_
    rintro e w3 ⟨rfl, hb3⟩
    have ho3 := ho2.below hb3 (Nat.le_refl _)
    have hbel := (hb1.trans (hb2.mono hb1.size)).trans (hb3.mono (hb1.trans (hb2.mono hb1.size)).size)
    clear hplc2
    have hmin : min (((plc l u : Nat) : Int) - ((plc l f : Nat) : Int)) n = min ((endP l u : Int) - plc l f) n := by rw [HE0.out]
    generalize hm : min ((endP l u : Int) - plc l f) n = m at *
    have Hm : Hid (min ((endP l u : Int) - plc l f) n = m) := hm
    have hmE : Hid (m ≤ ((plc l u : Nat) : Int) - ((plc l f : Nat) : Int) ∧ m ≤ n) := by rw [Hid, ← hmin]; omega
    clear hm
    by_cases hc : m < 1
    · go_wp2
      go_ret
      rw [Hn.out hc]
      exact ⟨_, rfl, OwnsP.nil0 _ _, hbel⟩
    · obtain ⟨C, rfl⟩ := Int.eq_ofNat_of_zero_le (show 0 ≤ m by omega)
      have hCb := hmE.out
      have hC1 : plc l f + C ≤ l.length := by omega
      obtain ⟨bb, oo, rfl, hbb, -, -, -, -⟩ := ho3.has.at (j := 0) (by omega)
      have hcut := ho3.has.cut (plc l f) C hC1
      rw [Hc.out C rfl] at hcut
      have hcl := clone_any bb (oo + plc l f * 2) C (cc - plc l f) _ w3 hcut (by omega) (by omega)
      clear hcut Hc Hn HE HE0 Hm hmE hCb
      generalize plc l f = F at *
      have hi1 : ((F : Int) + (C : Int)).toNat - F = C := by omega
      have hi2 : (F : Int) + C ≤ cc := by omega
      go_wp2_with fail
      refine hcl.mono ?_
      rintro e w9 ⟨v9, rfl, ho9, hb9⟩
      go_wp2
      go_ret
      exact ⟨_, rfl, ho9.mono (hbel).size, (hbel).trans (hb9.mono (hbel).size)⟩
end Go.Proofs.YthlghokgknkpaaaDoor

/-
  One map of the call's own, and two of them apart from each other: what Put, Delete, Get, Len, Pairs, Range, Export and Same leave of them and tell.
-/
namespace Go.Proofs.YthlghokgknkpaaaDoor
open Go.RowKit Go.Shelf

/-- Blocks of two maps, all of the call's own, apart from each other. -/
def Apart6 (B b bw bs c cw cs : Nat) : Prop := B ≤ b ∧ B ≤ bw ∧ B ≤ bs ∧ B ≤ c ∧ B ≤ cw ∧ B ≤ cs ∧ b ≠ c ∧ b ≠ cw ∧ b ≠ cs ∧ bw ≠ c ∧ bw ≠ cw ∧ bw ≠ cs ∧ bs ≠ c ∧ bs ≠ cw ∧ bs ≠ cs
/-- The map at b is M, and is the call's own. -/
def One7 (w wr : World) (b c : Nat) (M : SM) : Prop :=
  (∃ bw bs, Lies 60 56 wr b bw bs M ∧ w.heap.size ≤ b ∧ w.heap.size ≤ bw ∧ w.heap.size ≤ bs) ∧ Fine c M ∧ Below w.heap.size w wr
/-- The maps at b and d are M and N, the call's own, apart from each other. -/
def Two7 (w wr : World) (b c : Nat) (M : SM) (d e : Nat) (N : SM) : Prop :=
  (∃ bw bs dw ds, Lies 60 56 wr b bw bs M ∧ Lies 60 56 wr d dw ds N ∧ Apart6 w.heap.size b bw bs d dw ds) ∧ Fine c M ∧ Fine e N ∧ Below w.heap.size w wr
theorem One7.bel {w wr : World} {b c : Nat} {M : SM} (h : One7 w wr b c M) : Below w.heap.size w wr := h.2.2
theorem One7.fine {w wr : World} {b c : Nat} {M : SM} (h : One7 w wr b c M) : Fine c M := h.2.1
theorem One7.below {w wr w' : World} {b c : Nat} {M : SM} (h : One7 w wr b c M) (hb : Below wr.heap.size wr w') : One7 w w' b c M := by
  obtain ⟨⟨bw, bs, h1, h2⟩, h3, h4⟩ := h
  exact ⟨⟨bw, bs, h1.below hb (Nat.le_refl _), h2⟩, h3, h4.trans (hb.mono h4.size)⟩
theorem Two7.swap {w wr : World} {b c d e : Nat} {M N : SM} (h : Two7 w wr b c M d e N) : Two7 w wr d e N b c M := by
  obtain ⟨⟨bw, bs, dw, ds, h1, h2, h3⟩, h4, h5, h6⟩ := h
  exact ⟨⟨dw, ds, bw, bs, h2, h1, by unfold Apart6 at h3 ⊢; omega⟩, h5, h4, h6⟩
theorem Two7.one {w wr : World} {b c d e : Nat} {M N : SM} (h : Two7 w wr b c M d e N) : One7 w wr b c M := by
  obtain ⟨⟨bw, bs, dw, ds, h1, h2, h3⟩, h4, h5, h6⟩ := h
  unfold Apart6 at h3
  exact ⟨⟨bw, bs, h1, by omega, by omega, by omega⟩, h4, h6⟩
theorem Two7.bel {w wr : World} {b c d e : Nat} {M N : SM} (h : Two7 w wr b c M d e N) : Below w.heap.size w wr := h.2.2.2
theorem Two7.below {w wr w' : World} {b c d e : Nat} {M N : SM} (h : Two7 w wr b c M d e N) (hb : Below wr.heap.size wr w') : Two7 w w' b c M d e N := by
  obtain ⟨⟨bw, bs, dw, ds, h1, h2, h3⟩, h4, h5, h6⟩ := h
  exact ⟨⟨bw, bs, dw, ds, h1.below hb (Nat.le_refl _), h2.below hb (Nat.le_refl _), h3⟩, h4, h5, h6.trans (hb.mono h6.size)⟩
theorem one7_new {w W u : World} {c1 cw1 cs1 g : Nat} {k0 k1 : Int} (hB0 : Below w.heap.size w W) (hl1 : Lies 60 56 u c1 cw1 cs1 (SM.empty k0 k1 (.string ⟨#[]⟩) g)) (hz : isGood (g : Int) = true) (f1 : W.heap.size ≤ c1) (f2 : W.heap.size ≤ cw1) (f3 : W.heap.size ≤ cs1) (hb1 : Below W.heap.size W u) :
    One7 w u c1 0 (SM.empty k0 k1 (.string ⟨#[]⟩) g) := by
  have e1 := hB0.size
  exact ⟨⟨cw1, cs1, hl1, by omega, by omega, by omega⟩, fine_empty k0 k1 g hz, hB0.trans (hb1.mono e1)⟩
/-- A second map that has just been made. -/
theorem One7.more {w wr u : World} {b c d dw ds e : Nat} {M N : SM} (h : One7 w wr b c M) (hl : Lies 60 56 u d dw ds N) (hf : Fine e N) (f1 : wr.heap.size ≤ d) (f2 : wr.heap.size ≤ dw) (f3 : wr.heap.size ≤ ds) (hb : Below wr.heap.size wr u) : Two7 w u b c M d e N := by
  obtain ⟨⟨bw, bs, h1, h2⟩, h3, h4⟩ := h
  have hlt := h1.lt
  have hz := h4.size
  exact ⟨⟨bw, bs, dw, ds, h1.below hb (Nat.le_refl _), hl, by unfold Apart6; omega⟩, h3, hf, h4.trans (hb.mono hz)⟩

theorem One7.put {w wr : World} {b c : Nat} {M : SM} (h : One7 w wr b c M) (hT : Tab w) (hc : c < 2000) (p : ByteArray × ByteArray) (hp : p.1.size ≤ 131072 ∧ p.2.size ≤ 131072) :
    Calls Tryd.prog 9 #[.pointer (some ⟨b, 0, none⟩), .string p.1, .string p.2] wr fun e w' => (∃ x y, e = .returned (.tuple #[.bool x, .int .i64 y])) ∧ One7 w w' b (c + 1) (putP M p) ∧ Kinds [60, 22, 56] wr w' := by
  obtain ⟨⟨bw, bs, h1, g1, g2, g3⟩, h4, h6⟩ := h
  refine (put_any_s b bw bs M p.1 p.2 wr (hT.below h6 hT.1) h1 (sane_of_inv h4.inv) (by omega)).mono ?_
  rintro e w' ⟨rfl, bw', bs', f1, f2, f3, f4⟩
  have := h6.size
  exact ⟨⟨_, _, rfl⟩, ⟨⟨bw', bs', f1, g1, by omega, by omega⟩, fine_putP h4 hc p hp, h6.trans (f2.below (by simp; omega) h6.size)⟩, Kinds.of h1 f2⟩

theorem Two7.put {w wr : World} {b c d e : Nat} {M N : SM} (h : Two7 w wr b c M d e N) (hT : Tab w) (hc : c < 2000) (p : ByteArray × ByteArray) (hp : p.1.size ≤ 131072 ∧ p.2.size ≤ 131072) :
    Calls Tryd.prog 9 #[.pointer (some ⟨b, 0, none⟩), .string p.1, .string p.2] wr fun e' w' => (∃ x y, e' = .returned (.tuple #[.bool x, .int .i64 y])) ∧ Two7 w w' b (c + 1) (putP M p) d e N := by
  obtain ⟨⟨bw, bs, dw, ds, h1, h2, h3⟩, h4, h5, h6⟩ := h
  refine (put_any_s b bw bs M p.1 p.2 wr (hT.below h6 hT.1) h1 (sane_of_inv h4.inv) (by omega)).mono ?_
  rintro e w' ⟨rfl, bw', bs', f1, f2, f3, f4⟩
  have := h6.size
  have hl2 := h2.lt
  unfold Apart6 at h3
  refine ⟨⟨_, _, rfl⟩, ⟨bw', bs', dw, ds, f1, h2.but f2 (by simp; omega) (by simp; omega) (by simp; omega), ?_⟩, fine_putP h4 hc p hp, h5, h6.trans (f2.below (by simp; omega) h6.size)⟩
  unfold Apart6
  omega

theorem One7.get {w wr : World} {b c : Nat} {M : SM} (h : One7 w wr b c M) (hT : Tab w) (key : ByteArray) (hk : key.size < 140737488355328) :
    Calls Tryd.prog 11 #[.pointer (some ⟨b, 0, none⟩), .string key] wr fun e w' => e = .returned (.tuple #[.string (valK M key), .bool (M.find key).isSome]) ∧ Below wr.heap.size wr w' := by
  obtain ⟨⟨bw, bs, h1, g1, g2, g3⟩, h4, h6⟩ := h
  have := get_map_s b bw bs M key wr (hT.below h6 hT.1) h1 h4.inv.fit h4.inv.typed hk
  rw [get_val h4.inv, get_is] at this
  exact this

theorem One7.len {w wr : World} {b c : Nat} {M : SM} (h : One7 w wr b c M) :
    Calls Tryd.prog 12 #[.pointer (some ⟨b, 0, none⟩)] wr fun e w' => e = .returned (.int .i64 (M.n : Nat)) ∧ w' = wr := by
  obtain ⟨⟨bw, bs, h1, g1, g2, g3⟩, h4, h6⟩ := h
  exact len_any_s b bw bs M wr h1 h4.inv.fit

theorem One7.pairs {w wr : World} {b c : Nat} {M : SM} (h : One7 w wr b c M) (hT : Tab w) :
    Calls Tryd.prog 10 #[.pointer (some ⟨b, 0, none⟩)] wr fun e w' => ∃ v, e = .returned v ∧ OwnsP w' wr.heap.size v M.img ∧ Below wr.heap.size wr w' := by
  obtain ⟨⟨bw, bs, h1, g1, g2, g3⟩, h4, h6⟩ := h
  exact pairs_any b bw bs M wr (hT.below h6 hT.1) h1 h4.inv

theorem One7.range {w wr : World} {b c : Nat} {M : SM} (h : One7 w wr b c M) (hT : Tab w) (hc : c ≤ 2000) (f u : ByteArray) (n : Int) (hn : -9223372036854775808 ≤ n ∧ n ≤ 9223372036854775807) :
    Calls Tryd.prog 13 #[.pointer (some ⟨b, 0, none⟩), .string f, .string u, .int .i64 n] wr fun e w' => ∃ v, e = .returned v ∧ OwnsP w' wr.heap.size v (cutL M.img f u n) ∧ Below wr.heap.size wr w' :=
  range_of _ M.img f u n wr (h.pairs hT) (img_rise h.fine.inv) (by rw [img_len h.fine.inv]; have := h.fine.n; omega) hn

theorem One7.exp {w wr : World} {b c : Nat} {M : SM} (h : One7 w wr b c M) (hT : Tab w) (hc : c ≤ 2000) :
    Calls Tryd.prog 16 #[.pointer (some ⟨b, 0, none⟩)] wr fun e w' => ∃ v, e = .returned v ∧ Owns w' wr.heap.size 5 v (expB M.img) ∧ Below wr.heap.size wr w' :=
  export_of _ M.img wr (h.pairs hT) (h.fine.few (by omega))

set_option maxHeartbeats 1000000 in
/-- image.Same of whatever Pairs tells. -/
theorem same_of (p q : Option Addr) (l m : List (ByteArray × ByteArray)) (w : World) (hP : Calls Tryd.prog 10 #[.pointer p] w fun e w' => ∃ v, e = .returned v ∧ OwnsP w' w.heap.size v l ∧ Below w.heap.size w w')
    (hQ : ∀ W, Below w.heap.size w W → Calls Tryd.prog 10 #[.pointer q] W fun e w' => ∃ v, e = .returned v ∧ OwnsP w' W.heap.size v m ∧ Below W.heap.size W w') (hl : l.length ≤ 1099511627776) (hm : m.length ≤ 1099511627776) :
    Calls Tryd.prog 17 #[.pointer p, .pointer q] w fun e w' => e = .returned (.bool (decide (l = m))) ∧ Below w.heap.size w w' := by
  go_enter Tryd.func17, Tryd.ntmps17
  go_wp2_with fail
  refine hP.mono ?_
  rintro e w1 ⟨v1, rfl, ho1, hb1⟩
  have hq := hQ w1 hb1
  go_wp2_with fail
  refine hq.mono ?_
  rintro e w2 ⟨v2, rfl, ho2, hb2⟩
  have he := equal_any v1 v2 l m w2 (ho1.below hb2 (Nat.le_refl _)).has ho2.has hl hm
  clear hP hQ hq ho1 ho2
  go_wp2_with fail
  refine he.mono ?_
  rintro e w3 ⟨rfl, hb3⟩
  have hb12 := hb1.trans (hb2.mono hb1.size)
  go_wp2
  go_ret
  exact ⟨rfl, hb12.trans (hb3.mono hb12.size)⟩

theorem One7.same {w wr : World} {b c d e : Nat} {M N : SM} (h : One7 w wr b c M) (k : One7 w wr d e N) (hT : Tab w) (hc : c ≤ 2000) (he : e ≤ 2000) :
    Calls Tryd.prog 17 #[.pointer (some ⟨b, 0, none⟩), .pointer (some ⟨d, 0, none⟩)] wr fun e w' => e = .returned (.bool (decide (M.img = N.img))) ∧ Below wr.heap.size wr w' :=
  same_of _ _ M.img N.img wr (h.pairs hT) (fun _ hW => (k.below hW).pairs hT) (by rw [img_len h.fine.inv]; have := h.fine.n; omega) (by rw [img_len k.fine.inv]; have := k.fine.n; omega)
end Go.Proofs.YthlghokgknkpaaaDoor
