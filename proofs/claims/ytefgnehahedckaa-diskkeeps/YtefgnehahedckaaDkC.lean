/-
  Contracts: letter, digit, Good, need, blocks, made, ready, find of the disk.
-/
import Derived.Test.YtefgnehahedckaaDkN
namespace Go.Proofs.Ytefgnehahedckaa
open Go.RowKit Go.Maps

theorem letter_any (c : Nat) (w : World) : Calls Try.prog 49 #[.int .u8 (c : Nat)] w fun e w' => e = .returned (.bool (letN c)) ∧ w' = w := by
  unfold letN
  by_cases h1 : 97 ≤ c
  · have h1' : (97 : Int) ≤ c := by omega
    go_enter Try.func49, Try.ntmps49
    go_wp2
    go_ret
    refine ⟨?_, rfl⟩
    rw [decide_eq_true h1, Bool.true_and]
    exact congrArg (fun b => Ending.returned (.bool b)) (decide_eq_decide.2 (by omega))
  · have h1' : (c : Int) < 97 := by omega
    go_enter Try.func49, Try.ntmps49
    go_wp2
    go_ret
    exact ⟨rfl, rfl⟩
theorem digit_any (c : Nat) (w : World) : Calls Try.prog 50 #[.int .u8 (c : Nat)] w fun e w' => e = .returned (.bool (digN c)) ∧ w' = w := by
  unfold digN
  by_cases h1 : 48 ≤ c
  · have h1' : (48 : Int) ≤ c := by omega
    go_enter Try.func50, Try.ntmps50
    go_wp2
    go_ret
    refine ⟨?_, rfl⟩
    rw [decide_eq_true h1, Bool.true_and]
    exact congrArg (fun b => Ending.returned (.bool b)) (decide_eq_decide.2 (by omega))
  · have h1' : (c : Int) < 48 := by omega
    go_enter Try.func50, Try.ntmps50
    go_wp2
    go_ret
    exact ⟨rfl, rfl⟩
theorem need_any (n : Nat) (w : World) (hn : n ≤ 140737488355328) : Calls Try.prog 58 #[.int .i64 (n : Nat)] w fun e w' => e = .returned (.int .i64 (need n : Nat)) ∧ w' = w := by
  go_enter Try.func58, Try.ntmps58
  go_wp2
  go_ret
  refine ⟨?_, rfl⟩
  unfold need
  exact congrArg (fun b => Ending.returned (.int .i64 b)) (by omega)
theorem blocks_any (k : Nat) (p : Option Addr) (n c : Nat) (w : World) (h : w.cell? ⟨k, 0, none⟩ = some (.slice p n c)) (hn : n ≤ 140737488355328) : Calls Try.prog 54 #[.pointer (some ⟨k, 0, none⟩)] w fun e w' => e = .returned (.int .i64 (need n : Nat)) ∧ w' = w := by
  go_enter Try.func54, Try.ntmps54
  go_wp2_with fail
  refine same_mono (need_any n _ hn) ?_
  go_wp2
  go_ret
  exact ⟨rfl, rfl⟩
theorem made_nil8 (w : World) : Calls Try.prog 59 #[.pointer none] w fun e w' => e = .returned (.bool false) ∧ w' = w := by
  go_enter Try.func59, Try.ntmps59
  go_wp2
  go_ret
  exact ⟨rfl, rfl⟩
theorem equal_map_nil {P : Program} (d : Nat) (t : TypeId) {k e : TypeId} (m : Option Nat) (W : World) (h : P.underlying t = some (.map k e)) : (Op.equalIn (d + 1) t (.map m) (.map none)).run P W = .ok m.isNone W := by
  cases m <;> simp [Op.equalIn, run_underlying h]
theorem map_nil8 (m : Option Nat) (W : World) : (binOp .neq 54 (.map m) (.map none)).run Try.prog W = .ok (.bool m.isSome) W := by
  simp [binOp, go_sem]
  show ((Op.equalIn (9999 + 1) 54 (.map m) (.map none)).run Try.prog W).andThen _ = _
  rw [equal_map_nil 9999 _ m W Try.underlying54]
  cases m <;> rfl
theorem made_any8 (d : Nat) (m : Option Nat) (w : World) (h : w.cell? ⟨d, 0, none⟩ = some (.map m)) : Calls Try.prog 59 #[.pointer (some ⟨d, 0, none⟩)] w fun e w' => e = .returned (.bool m.isSome) ∧ w' = w := by
  have hm := map_nil8 m
  go_enter Try.func59, Try.ntmps59
  go_wp2
  go_ret
  exact ⟨rfl, rfl⟩
section
variable {w : World} {d : Nat} {S : Nat → Prop} {φ : ByteArray → Nat} {σ : ByteArray → Value} {mb : Nat} {vb : Value} {R : RD}
/-- How ready it is. -/
def readyN (on : Bool) : Nat := if on = true then 0 else 9
theorem ready_any (h : Lies8 w d S φ σ mb vb R) : Calls Try.prog 51 #[.pointer (some ⟨d, 0, none⟩)] w fun e w' => e = .returned (.int .i64 (readyN R.on : Nat)) ∧ w' = w := by
  obtain ⟨c0, -, -, -, -, c5, -⟩ := h.cells
  unfold readyN
  cases ho : R.on with
  | true =>
    rw [ho] at c5
    go_enter Try.func51, Try.ntmps51
    go_wp2_with fail
    refine same_mono (made_any8 d _ w c0) ?_
    go_wp2
    go_ret
    exact ⟨rfl, rfl⟩
  | false =>
    rw [ho] at c5
    go_enter Try.func51, Try.ntmps51
    go_wp2_with fail
    refine same_mono (made_any8 d _ w c0) ?_
    go_wp2
    go_ret
    exact ⟨rfl, rfl⟩
theorem find_yes (h : Lies8 w d S φ σ mb vb R) {x : ByteArray} (hs : x.size ≤ maxLen) (ho : R.on = true) (hx : x ∈ R.names) :
    Calls Try.prog 57 #[.pointer (some ⟨d, 0, none⟩), .string x] w fun e w' => e = .returned (.tuple #[.pointer (some ⟨φ x, 0, none⟩), .int .i64 0]) ∧ w' = w := by
  obtain ⟨c0, -⟩ := h.cells
  have hr := ready_any h
  rw [ho] at hr
  have hl := h.map.look_yes hs hx
  go_enter Try.func57, Try.ntmps57
  go_wp2_with fail
  refine same_mono hr ?_
  unfold readyN
  go_wp2
  go_ret2
  exact ⟨rfl, rfl⟩
theorem find_none8 (h : Lies8 w d S φ σ mb vb R) {x : ByteArray} (hs : x.size ≤ maxLen) (ho : R.on = true) (hx : x ∉ R.names) :
    Calls Try.prog 57 #[.pointer (some ⟨d, 0, none⟩), .string x] w fun e w' => e = .returned (.tuple #[.pointer none, .int .i64 4]) ∧ w' = w := by
  obtain ⟨c0, -⟩ := h.cells
  have hr := ready_any h
  rw [ho] at hr
  have hl := h.map.look_no hs hx
  go_enter Try.func57, Try.ntmps57
  go_wp2_with fail
  refine same_mono hr ?_
  unfold readyN
  go_wp2
  go_ret2
  exact ⟨rfl, rfl⟩
theorem find_off8 (h : Lies8 w d S φ σ mb vb R) (x : ByteArray) (ho : R.on = false) :
    Calls Try.prog 57 #[.pointer (some ⟨d, 0, none⟩), .string x] w fun e w' => e = .returned (.tuple #[.pointer none, .int .i64 9]) ∧ w' = w := by
  have hr := ready_any h
  rw [ho] at hr
  go_enter Try.func57, Try.ntmps57
  go_wp2_with fail
  refine same_mono hr ?_
  unfold readyN
  go_wp2
  go_ret2
  exact ⟨rfl, rfl⟩
end

theorem take_snoc8 (s : ByteArray) (k : Nat) (h : k < s.size) : s.data.toList.take (k + 1) = s.data.toList.take k ++ [s[k]] := by
  rw [List.take_succ_eq_append_getElem (by simpa using h)]; rfl
set_option maxRecDepth 10000 in
set_option maxHeartbeats 1000000 in
theorem good_any (x : ByteArray) (hs : x.size ≤ maxLen) (w : World) : Calls Try.prog 15 #[.string x] w fun e w' => e = .returned (.bool (goodN x)) ∧ w' = w := by
  unfold maxLen at hs
  by_cases h0 : x.size = 0
  · have hg : goodN x = false := by unfold goodN; rw [h0]; rfl
    rw [hg]
    go_enter Try.func15, Try.ntmps15
    go_wp2
    go_ret
    exact ⟨rfl, rfl⟩
  by_cases h24 : 24 < x.size
  · have hg : goodN x = false := by unfold goodN; rw [decide_eq_false (by omega : ¬ x.size ≤ 24)]; simp
    rw [hg]
    go_enter Try.func15, Try.ntmps15
    go_wp2
    go_ret
    exact ⟨rfl, rfl⟩
  have hp : 0 < x.size := by omega
  have he : goodN x = (letN x[0].toNat && x.data.toList.all fun c => chN c.toNat) := by
    unfold goodN
    rw [decide_eq_true (by omega : 1 ≤ x.size), decide_eq_true (by omega : x.size ≤ 24)]
    simp [List.getD_eq_getElem?_getD, List.getElem?_eq_getElem (by simpa using hp : 0 < x.data.toList.length)]
    rfl
  cases hlet : letN x[0].toNat with
  | false =>
    rw [hlet, Bool.false_and] at he
    rw [he]
    go_enter Try.func15, Try.ntmps15
    go_wp2_with fail
    refine same_mono (letter_any _ _) ?_
    rw [hlet]
    go_wp2
    go_ret
    exact ⟨rfl, rfl⟩
  | true =>
    rw [hlet, Bool.true_and] at he
    have he' : Hid (goodN x = x.data.toList.all fun c => chN c.toNat) := he
    clear he
    go_enter Try.func15, Try.ntmps15
    go_wp2_with fail
    refine same_mono (letter_any _ _) ?_
    rw [hlet]
    clear hlet
    have h0' : ((x.size : Int) == 0) = false := by rw [beq_eq_false_iff_ne]; omega
    have h24' : (x.size : Int) ≤ 24 := by omega
    go_wp2
    go_loop [21] (fun i => ∃ k : Nat, k ≤ x.size ∧ i = .int .i64 k ∧ Hid (((x.data.toList.take k).all fun c => chN c.toNat) = true)) (fun i => x.size - (intOf i).toNat)
    case atStart => exact ⟨0, Nat.zero_le _, rfl, rfl⟩
    case round =>
      obtain ⟨k, hk, rfl, ha⟩ := hrel
      by_cases hlt : k < x.size
      · have HS : Hid (((x.data.toList.take (k + 1)).all fun c => chN c.toNat) = chN x[k].toNat) := by
          show _ = _
          rw [take_snoc8 x k hlt, List.all_append, ha.out]
          simp
        have HF : Hid (chN x[k].toNat = false → goodN x = false) := by
          intro hc
          rw [he'.out, ← List.take_append_drop (k + 1) x.data.toList, List.all_append, HS.out, hc, Bool.false_and]
        have hc8 : x[k].toNat < 256 := x[k].toBitVec.isLt
        clear he'
        generalize hxc : x[k].toNat = c at *
        by_cases hc : chN c = true
        · have HS' := HS.out.trans hc
          have Hc : Hid ((letN c || digN c || c == 46 || c == 45) = true) := hc
          clear HS HF hc
          have hd := digit_any c w
          have hl := letter_any c w
          cases h1 : letN c with
          | true =>
            rw [h1] at hl
            go_wp2_with fail
            refine same_mono hl ?_
            go_wp2
            go_round
            case rel => exact ⟨k + 1, by omega, by go_num, HS'⟩
            case measure => simp only [intOf]; omega
          | false =>
            rw [h1] at hl
            cases h2 : digN c with
            | true =>
              rw [h2] at hd
              go_wp2_with fail
              refine same_mono hl ?_
              go_wp2_with fail
              refine same_mono hd ?_
              go_wp2
              go_round
              case rel => exact ⟨k + 1, by omega, by go_num, HS'⟩
              case measure => simp only [intOf]; omega
            | false =>
              rw [h2] at hd
              by_cases h3 : c = 46
              · subst h3
                go_wp2_with fail
                refine same_mono hl ?_
                go_wp2_with fail
                refine same_mono hd ?_
                go_wp2
                go_round
                case rel => exact ⟨k + 1, by omega, by go_num, HS'⟩
                case measure => simp only [intOf]; omega
              · have h4 : c = 45 := by have := Hc.out; rw [h1, h2] at this; simpa [h3] using this
                subst h4
                go_wp2_with fail
                refine same_mono hl ?_
                go_wp2_with fail
                refine same_mono hd ?_
                go_wp2
                go_round
                case rel => exact ⟨k + 1, by omega, by go_num, HS'⟩
                case measure => simp only [intOf]; omega
        · have hg := HF.out (by simpa using hc)
          have Hc : (letN c || digN c || c == 46 || c == 45) = false := by simpa [chN] using hc
          clear HS HF hc
          have hd := digit_any c w
          have hl := letter_any c w
          simp only [Bool.or_eq_false_iff, beq_eq_false_iff_ne] at Hc
          obtain ⟨⟨⟨h1, h2⟩, h3⟩, h4⟩ := Hc
          rw [h1] at hl
          rw [h2] at hd
          have h3' : ((c : Int) != 46) = true := bne_iff_ne.2 (by omega)
          have h4' : ((c : Int) != 45) = true := bne_iff_ne.2 (by omega)
          have Hg : Hid (goodN x = false) := hg
          clear hg
          go_wp2_with fail
          refine same_mono hl ?_
          go_wp2_with fail
          refine same_mono hd ?_
          go_wp2
          go_ret
          refine ⟨?_, rfl⟩
          rw [Hg.out]
          rfl
      · have hkn : k = x.size := by omega
        have hg : goodN x = true := by
          rw [he'.out, ← List.take_of_length_le (l := x.data.toList) (i := k) (by rw [hkn]; exact Nat.le_refl _)]
          exact ha.out
        have Hg : Hid (goodN x = true) := hg
        clear ha he' hg
        go_wp2
        go_ret
        refine ⟨?_, rfl⟩
        rw [Hg.out]
        rfl
end Go.Proofs.Ytefgnehahedckaa
