import Derived.Test.YthlelcmifolnfaaGreatDoorKa2To
import Derived.Test.YthlelcmifolnfaaGreatDoorWaXTo
import Derived.Shelf.Strconv.AtoiAll
import Derived.Shelf.Strconv.ErrVarAll
import Derived.Shelf.Strconv.Itoa3
import Derived.Shelf.Strings.Prefix
import Derived.Shelf.Lay
import Derived.Deep.DeepCutAuto
import Derived.Lib.AppendIntMem
import Derived.Ground.NamesProg
import Derived.Test.YthlelcmifolnfaaGreatDoorChecked
namespace Go.Proofs.YthlelcmifolnfaaGreatDoor
open Go.RowKit Go.Shelf
shelf_lay LaysC.n172 Nm 172 at Tryz as Tryz.laysAtoi
shelf_lay LaysM.n171 Nm 171 at Tryz as Tryz.laysItoa
shelf_lay Lays.n101 Nm 101 at Tryz as Tryz.laysTrim

structure Gl11 (w : World) : Prop where
  tab : Tab w
  pow : Lib.TabIs Tryz.prog w "internal/strconv.uint64pow10" .u64 Lib.pow10Tab
  syn : ∃ tp p, w.var? Tryz.prog "strconv.ErrSyntax" = some #[.iface tp p]
  rng : ∃ tp p, w.var? Tryz.prog "strconv.ErrRange" = some #[.iface tp p]
theorem var_below {P : Program} {w w' : World} {B : Nat} {name : String} {cs : Array Value} (h : w.var? P name = some cs) (hb : Below B w w') (hB : w.heap.size ≤ B) : w'.var? P name = some cs := by
  unfold World.var? at h ⊢
  cases hg : P.globalNamed name with
  | none => rw [hg] at h; cases h
  | some g =>
    rw [hg] at h
    dsimp only [Option.bind] at h ⊢
    cases hh : w.heap[g]? with
    | none => rw [hh] at h; cases h
    | some o =>
      rw [hb.block g (Nat.lt_of_lt_of_le (Array.getElem?_eq_some_iff.1 hh).1 hB)]
      exact h
theorem Gl11.below {w w' : World} {B : Nat} (h : Gl11 w) (hb : Below B w w') (hB : w.heap.size ≤ B) : Gl11 w' :=
  ⟨h.tab.below hb hB, var_below h.pow hb hB, h.syn.imp fun _ h => h.imp fun _ h => var_below h hb hB, h.rng.imp fun _ h => h.imp fun _ h => var_below h hb hB⟩

theorem pre_str12 : (⟨#[115, 110, 97, 112, 45]⟩ : ByteArray) = strOfNums pre12 := by decide +kernel
set_option maxRecDepth 100000 in
set_option maxHeartbeats 1000000 in
theorem nameS_any (n : Int) (hn : inI n) (w : World) (hG : Gl11 w) : Calls Tryz.prog 15 #[.int .i64 n] w fun e w' => e = .returned (.string (nameB12 n)) ∧ Below w.heap.size w w' := by
  have hem : (⟨#[]⟩ : ByteArray) = strOfNums [] := by decide +kernel
  have HN : Hid (nameB12 n = strOfNums (name12 n)) := rfl
  by_cases h1 : n < 1
  · have HF : Hid (name12 n = []) := if_neg (by omega)
    go_enter Tryz.func15, Tryz.ntmps15
    go_wp2
    go_ret
    exact ⟨by rw [HN.out, HF.out, ← hem]; rfl, Below.refl _ _⟩
  by_cases h2 : 999999999 < n
  · have HF : Hid (name12 n = []) := if_neg (by omega)
    go_enter Tryz.func15, Tryz.ntmps15
    go_wp2
    go_ret
    exact ⟨by rw [HN.out, HF.out, ← hem]; rfl, Below.refl _ _⟩
  have HF : Hid (name12 n = pre12 ++ digs11 20 n.toNat) := if_pos (by omega)
  have ki := (Any.strconv_Itoa Tryz.laysItoa n hn.1 hn.2 w hG.pow).mono (R' := fun e w' => e = .returned (.string (strOfNums (digs11 20 n.toNat))) ∧ Below w.heap.size w w') fun e w' h => by
    obtain ⟨rfl, k, os, rfl⟩ := h
    exact ⟨by rw [itoa_str n (by omega) (by omega)], Lib.below_grow _ _ (Nat.le_refl _) k os⟩
  have hl := digs_len 20 n.toNat (Nat.lt_of_lt_of_le (show n.toNat < 10 ^ 9 by simp; omega) (Nat.pow_le_pow_right (by omega) (by omega)))
  have KI : Hid (Calls Tryz.prog 62 #[.int .i64 n] w fun e w' => e = .returned (.string (strOfNums (digs11 20 n.toNat))) ∧ Below w.heap.size w w') := ki
  clear ki
  generalize digs11 20 n.toNat = ds at *
  have hov : (⟨#[115, 110, 97, 112, 45]⟩ : ByteArray).size + (strOfNums ds).size ≤ 1000000 := by rw [strOf_sz]; show 5 + _ ≤ _; omega
  go_enter Tryz.func15, Tryz.ntmps15
  go_wp2_with fail
  refine KI.out.mono ?_
  rintro _ w1 ⟨rfl, hb1⟩
  go_wp2
  go_ret
  exact ⟨by rw [HN.out, HF.out, ← strOf_app, ← pre_str12]; rfl, hb1⟩

set_option maxRecDepth 100000 in
set_option maxHeartbeats 1000000 in
theorem indexS_any (x : ByteArray) (hs : x.size ≤ 140737488355328) (w : World) (hG : Gl11 w) : Calls Tryz.prog 12 #[.string x] w fun e w' => e = .returned (.tuple #[.int .i64 (num12 x).1, .bool (num12 x).2]) ∧ Below w.heap.size w w' := by
  obtain ⟨Q1, Q2⟩ := num_of12 x
  have hpre : (⟨#[115, 110, 97, 112, 45]⟩ : ByteArray).data.toList = preS12 := rfl
  have kt := Any.strings_TrimPrefix Tryz.laysTrim x ⟨#[115, 110, 97, 112, 45]⟩ w
  rw [hpre] at kt
  have htl : (Lib.trimPrefix x.data.toList preS12).length ≤ x.size := by
    unfold Lib.trimPrefix
    split
    · rw [List.length_drop]; show x.data.toList.length - _ ≤ x.data.size; rw [Array.length_toList]; omega
    · rw [Array.length_toList]; exact Nat.le_refl _
  have hts : (⟨(Lib.trimPrefix x.data.toList preS12).toArray⟩ : ByteArray).size ≤ 140737488355328 := by
    show (Lib.trimPrefix x.data.toList preS12).toArray.size ≤ _
    rw [List.size_toArray]
    omega
  have HT : Hid ((⟨(Lib.trimPrefix x.data.toList preS12).toArray⟩ : ByteArray).data.toList = Lib.trimPrefix x.data.toList preS12) := by rw [Hid, List.toList_toArray]
  generalize (⟨(Lib.trimPrefix x.data.toList preS12).toArray⟩ : ByteArray) = y at *
  have KT : Hid (Calls Tryz.prog 59 #[.string x, .string ⟨#[115, 110, 97, 112, 45]⟩] w fun e w' => e = .returned (.string y) ∧ w' = w) := kt
  generalize num12 x = R at *
  clear kt htl
  cases h : Lib.atoiAll (Lib.trimPrefix x.data.toList preS12) with
  | ok v =>
    have HR : Hid (R = if natsOf x = name12 v then (v, true) else (0, false)) := Q1 v h
    have hv := Lib.atoiAll_bounds h
    have ka := (Any.strconv_Atoi_ok Tryz.laysAtoi y (by omega) v (by rw [HT.out]; exact h) w).mono (R' := fun e w' => e = .returned (.tuple #[.int .i64 v, .nilIface]) ∧ Below w.heap.size w w') fun e w' h => by
      obtain ⟨rfl, rfl | ⟨t, rfl⟩⟩ := h
      · exact ⟨rfl, Below.refl _ _⟩
      · exact ⟨rfl, Lib.bytesWorld_below _ _ _⟩
    have KA : Hid (Calls Tryz.prog 58 #[.string y] w fun e w' => e = .returned (.tuple #[.int .i64 v, .nilIface]) ∧ Below w.heap.size w w') := ka
    have KN : Hid (∀ W, Below w.heap.size w W → Calls Tryz.prog 15 #[.int .i64 v] W fun e w' => e = .returned (.string (nameB12 v)) ∧ Below W.heap.size W w') := fun W hb => nameS_any v hv W (hG.below hb (Nat.le_refl _))
    have hq := nameB_eq12 v x
    clear ka Q1 Q2 h hG
    go_enter Tryz.func12, Tryz.ntmps12
    go_upto_region 2 with (first
      | (go_at_call 59; refine same_mono KT.out ?_)
      | (go_at_call 58; refine KA.out.mono ?_; rintro _ w1 ⟨rfl, hb1⟩))
    have kn := KN.out _ hb1
    by_cases e : natsOf x = name12 v
    · rw [decide_eq_true e] at hq
      rw [if_pos e] at HR
      clear e
      generalize nameB12 v = nb at *
      go_wp2_with fail
      refine kn.mono ?_
      rintro _ w2 ⟨rfl, hb2⟩
      go_wp2
      go_ret2
      exact ⟨by rw [HR.out]; rfl, hb1.trans (hb2.mono hb1.size)⟩
    · rw [decide_eq_false e] at hq
      rw [if_neg e] at HR
      clear e
      generalize nameB12 v = nb at *
      go_wp2_with fail
      refine kn.mono ?_
      rintro _ w2 ⟨rfl, hb2⟩
      go_wp2
      go_ret2
      exact ⟨by rw [HR.out]; rfl, hb1.trans (hb2.mono hb1.size)⟩
  | «syntax» =>
    have HR : Hid (R = (0, false)) := Q2 (fun v e => by rw [h] at e; cases e)
    obtain ⟨tp, p, hvar⟩ := hG.syn
    have ka := Any.strconv_Atoi_syntax_var Tryz.laysAtoi y (by omega) (by rw [HT.out]; exact h) tp p w hvar
    have KA : Hid (Calls Tryz.prog 58 #[.string y] w fun e w' => ∃ (N : Nat) (n : Int) (t : TypeId), e = .returned (.tuple #[.int .i64 n, .iface t (.pointer (some ⟨N, 0, none⟩))]) ∧ Below w.heap.size w w') := ka.mono fun e w' h => by
      obtain ⟨N, rfl, -, -, hb⟩ := h
      exact ⟨N, _, _, rfl, hb⟩
    clear ka Q1 Q2 h hG hvar
    go_enter Tryz.func12, Tryz.ntmps12
    go_wp2_with (first
      | (go_at_call 59; refine same_mono KT.out ?_)
      | (go_at_call 58; refine KA.out.mono ?_; rintro _ w1 ⟨N, n9, t9, rfl, hb1⟩))
    go_ret2
    exact ⟨by rw [HR.out]; rfl, hb1⟩
  | range =>
    have HR : Hid (R = (0, false)) := Q2 (fun v e => by rw [h] at e; cases e)
    obtain ⟨tp, p, hvar⟩ := hG.rng
    have ka := Any.strconv_Atoi_range_var Tryz.laysAtoi y (by omega) (by rw [HT.out]; exact h) tp p w hvar
    have KA : Hid (Calls Tryz.prog 58 #[.string y] w fun e w' => ∃ (N : Nat) (n : Int) (t : TypeId), e = .returned (.tuple #[.int .i64 n, .iface t (.pointer (some ⟨N, 0, none⟩))]) ∧ Below w.heap.size w w') := ka.mono fun e w' h => by
      obtain ⟨N, rfl, -, -, hb⟩ := h
      exact ⟨N, _, _, rfl, hb⟩
    clear ka Q1 Q2 h hG hvar
    go_enter Tryz.func12, Tryz.ntmps12
    go_wp2_with (first
      | (go_at_call 59; refine same_mono KT.out ?_)
      | (go_at_call 58; refine KA.out.mono ?_; rintro _ w1 ⟨N, n9, t9, rfl, hb1⟩))
    go_ret2
    exact ⟨by rw [HR.out]; rfl, hb1⟩
end Go.Proofs.YthlelcmifolnfaaGreatDoor
