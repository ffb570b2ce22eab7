import Derived.Test.YtefgnehahedckaaDkNTo
import Derived.Lib.SliceRun
/-
  Contracts: letter, digit, Good, need, blocks, made, ready, find of the disk.
-/
namespace Go.Proofs.Ytefgnehahedckaa
open Go.RowKit Go.Maps

theorem letter_any (c : Nat) (w : World) : Calls Try.prog 49 #[.int .u8 (c : Nat)] w fun e w' => e = .returned (.bool (letN c)) ∧ w' = w := by
  unfold letN
  by_cases h1 : 97 ≤ c
  · have h1' : (97 : Int) ≤ c := by omega
    go_enter Try.func49, Try.ntmps49
    go_wp2
    go_ret
    refine ⟨?_, rfl⟩
    rw [decide_eq_true h1, Bool.true_and]
    exact congrArg (fun b => Ending.returned (.bool b)) (decide_eq_decide.2 (by omega))
  · have h1' : (c : Int) < 97 := by omega
    go_enter Try.func49, Try.ntmps49
    go_wp2
    go_ret
    exact ⟨rfl, rfl⟩
theorem digit_any (c : Nat) (w : World) : Calls Try.prog 50 #[.int .u8 (c : Nat)] w fun e w' => e = .returned (.bool (digN c)) ∧ w' = w := by
  unfold digN
  by_cases h1 : 48 ≤ c
  · have h1' : (48 : Int) ≤ c := by omega
    go_enter Try.func50, Try.ntmps50
    go_wp2
    go_ret
    refine ⟨?_, rfl⟩
    rw [decide_eq_true h1, Bool.true_and]
    exact congrArg (fun b => Ending.returned (.bool b)) (decide_eq_decide.2 (by omega))
  · have h1' : (c : Int) < 48 := by omega
    go_enter Try.func50, Try.ntmps50
    go_wp2
    go_ret
    exact ⟨rfl, rfl⟩
theorem need_any (n : Nat) (w : World) (hn : n ≤ 140737488355328) : Calls Try.prog 58 #[.int .i64 (n : Nat)] w fun e w' => e = .returned (.int .i64 (need n : Nat)) ∧ w' = w := by
  go_enter Try.func58, Try.ntmps58
  go_wp2
  go_ret
  refine ⟨?_, rfl⟩
  unfold need
  exact congrArg (fun b => Ending.returned (.int .i64 b)) (by omega)
theorem blocks_any (k : Nat) (p : Option Addr) (n c : Nat) (w : World) (h : w.cell? ⟨k, 0, none⟩ = some (.slice p n c)) (hn : n ≤ 140737488355328) : Calls Try.prog 54 #[.pointer (some ⟨k, 0, none⟩)] w fun e w' => e = .returned (.int .i64 (need n : Nat)) ∧ w' = w := by
  go_enter Try.func54, Try.ntmps54
  go_wp2_with fail
  refine same_mono (need_any n _ hn) ?_
  go_wp2
  go_ret
  exact ⟨rfl, rfl⟩
theorem made_nil8 (w : World) : Calls Try.prog 59 #[.pointer none] w fun e w' => e = .returned (.bool false) ∧ w' = w := by
  go_enter Try.func59, Try.ntmps59
  go_wp2
  go_ret
  exact ⟨rfl, rfl⟩
theorem equal_map_nil {P : Program} (d : Nat) (t : TypeId) {k e : TypeId} (m : Option Nat) (W : World) (h : P.underlying t = some (.map k e)) : (Op.equalIn (d + 1) t (.map m) (.map none)).run P W = .ok m.isNone W := by
  cases m <;> simp [Op.equalIn, run_underlying h]
theorem map_nil8 (m : Option Nat) (W : World) : (binOp .neq 54 (.map m) (.map none)).run Try.prog W = .ok (.bool m.isSome) W := by
  simp [binOp, go_sem]
  show ((Op.equalIn (9999 + 1) 54 (.map m) (.map none)).run Try.prog W).andThen _ = _
  rw [equal_map_nil 9999 _ m W Try.underlying54]
  cases m <;> rfl
theorem made_any8 (d : Nat) (m : Option Nat) (w : World) (h : w.cell? ⟨d, 0, none⟩ = some (.map m)) : Calls Try.prog 59 #[.pointer (some ⟨d, 0, none⟩)] w fun e w' => e = .returned (.bool m.isSome) ∧ w' = w := by
  have hm := map_nil8 m
  go_enter Try.func59, Try.ntmps59
  go_wp2
  go_ret
  exact ⟨rfl, rfl⟩
section
variable {w : World} {d : Nat} {S : Nat → Prop} {φ : ByteArray → Nat} {σ : ByteArray → Value} {mb : Nat} {vb : Value} {R : RD}
/-- How ready it is. -/
def readyN (on : Bool) : Nat := if on = true then 0 else 9
theorem ready_any (h : Lies8 w d S φ σ mb vb R) : Calls Try.prog 51 #[.pointer (some ⟨d, 0, none⟩)] w fun e w' => e = .returned (.int .i64 (readyN R.on : Nat)) ∧ w' = w := by
  obtain ⟨c0, -, -, -, -, c5, -⟩ := h.cells
  unfold readyN
  cases ho : R.on with
  | true =>
    rw [ho] at c5
    go_enter Try.func51, Try.ntmps51
    go_wp2_with fail
    refine same_mono (made_any8 d _ w c0) ?_
    go_wp2
    go_ret
    exact ⟨rfl, rfl⟩
  | false =>
    rw [ho] at c5
    go_enter Try.func51, Try.ntmps51
    go_wp2_with fail
    refine same_mono (made_any8 d _ w c0) ?_
    go_wp2
    go_ret
    exact ⟨rfl, rfl⟩
theorem find_yes (h : Lies8 w d S φ σ mb vb R) {x : ByteArray} (hs : x.size ≤ maxLen) (ho : R.on = true) (hx : x ∈ R.names) :
    Calls Try.prog 57 #[.pointer (some ⟨d, 0, none⟩), .string x] w fun e w' => e = .returned (.tuple #[.pointer (some ⟨φ x, 0, none⟩), .int .i64 0]) ∧ w' = w := by
  obtain ⟨c0, -⟩ := h.cells
  have hr := ready_any h
  rw [ho] at hr
  have hl := h.map.look_yes hs hx
  go_enter Try.func57, Try.ntmps57
  go_wp2_with fail
  refine same_mono hr ?_
  unfold readyN
  go_wp2
  go_ret2
  exact ⟨rfl, rfl⟩
theorem find_none8 (h : Lies8 w d S φ σ mb vb R) {x : ByteArray} (hs : x.size ≤ maxLen) (ho : R.on = true) (hx : x ∉ R.names) :
    Calls Try.prog 57 #[.pointer (some ⟨d, 0, none⟩), .string x] w fun e w' => e = .returned (.tuple #[.pointer none, .int .i64 4]) ∧ w' = w := by
  obtain ⟨c0, -⟩ := h.cells
  have hr := ready_any h
  rw [ho] at hr
  have hl := h.map.look_no hs hx
  go_enter Try.func57, Try.ntmps57
  go_wp2_with fail
  refine same_mono hr ?_
  unfold readyN
  go_wp2
  go_ret2
  exact ⟨rfl, rfl⟩
theorem find_off8 (h : Lies8 w d S φ σ mb vb R) (x : ByteArray) (ho : R.on = false) :
    Calls Try.prog 57 #[.pointer (some ⟨d, 0, none⟩), .string x] w fun e w' => e = .returned (.tuple #[.pointer none, .int .i64 9]) ∧ w' = w := by
  have hr := ready_any h
  rw [ho] at hr
  go_enter Try.func57, Try.ntmps57
  go_wp2_with fail
  refine same_mono hr ?_
  unfold readyN
  go_wp2
  go_ret2
  exact ⟨rfl, rfl⟩
end

theorem take_snoc8 (s : ByteArray) (k : Nat) (h : k < s.size) : s.data.toList.take (k + 1) = s.data.toList.take k ++ [s[k]] := by
  rw [List.take_succ_eq_append_getElem (by simpa using h)]; rfl
set_option maxRecDepth 10000 in
set_option maxHeartbeats 1000000 in
theorem good_any (x : ByteArray) (hs : x.size ≤ maxLen) (w : World) : Calls Try.prog 15 #[.string x] w fun e w' => e = .returned (.bool (goodN x)) ∧ w' = w := by
  unfold maxLen at hs
  by_cases h0 : x.size = 0
  · have hg : goodN x = false := by unfold goodN; rw [h0]; rfl
    rw [hg]
    go_enter Try.func15, Try.ntmps15
    go_wp2
    go_ret
    exact ⟨rfl, rfl⟩
  by_cases h24 : 24 < x.size
  · have hg : goodN x = false := by unfold goodN; rw [decide_eq_false (by omega : ¬ x.size ≤ 24)]; simp
    rw [hg]
    go_enter Try.func15, Try.ntmps15
    go_wp2
    go_ret
    exact ⟨rfl, rfl⟩
  have hp : 0 < x.size := by omega
  have he : goodN x = (letN x[0].toNat && x.data.toList.all fun c => chN c.toNat) := by
    unfold goodN
    rw [decide_eq_true (by omega : 1 ≤ x.size), decide_eq_true (by omega : x.size ≤ 24)]
    simp [List.getD_eq_getElem?_getD, List.getElem?_eq_getElem (by simpa using hp : 0 < x.data.toList.length)]
    rfl
  cases hlet : letN x[0].toNat with
  | false =>
    rw [hlet, Bool.false_and] at he
    rw [he]
    go_enter Try.func15, Try.ntmps15
    go_wp2_with fail
    refine same_mono (letter_any _ _) ?_
    rw [hlet]
    go_wp2
    go_ret
    exact ⟨rfl, rfl⟩
  | true =>
    rw [hlet, Bool.true_and] at he
    have he' : Hid (goodN x = x.data.toList.all fun c => chN c.toNat) := he
    clear he
    go_enter Try.func15, Try.ntmps15
    go_wp2_with fail
    refine same_mono (letter_any _ _) ?_
    rw [hlet]
    clear hlet
    have h0' : ((x.size : Int) == 0) = false := by rw [beq_eq_false_iff_ne]; omega
    have h24' : (x.size : Int) ≤ 24 := by omega
    go_wp2
    go_loop [21] (fun i => ∃ k : Nat, k ≤ x.size ∧ i = .int .i64 k ∧ Hid (((x.data.toList.take k).all fun c => chN c.toNat) = true)) (fun i => x.size - (intOf i).toNat)
    case atStart => exact ⟨0, Nat.zero_le _, rfl, rfl⟩
    case round =>
      obtain ⟨k, hk, rfl, ha⟩ := hrel
      by_cases hlt : k < x.size
      · have HS : Hid (((x.data.toList.take (k + 1)).all fun c => chN c.toNat) = chN x[k].toNat) := by
          show _ = _
          rw [take_snoc8 x k hlt, List.all_append, ha.out]
          simp
        have HF : Hid (chN x[k].toNat = false → goodN x = false) := by
          intro hc
          rw [he'.out, ← List.take_append_drop (k + 1) x.data.toList, List.all_append, HS.out, hc, Bool.false_and]
        have hc8 : x[k].toNat < 256 := x[k].toBitVec.isLt
        clear he'
        generalize hxc : x[k].toNat = c at *
        by_cases hc : chN c = true
        · have HS' := HS.out.trans hc
          have Hc : Hid ((letN c || digN c || c == 46 || c == 45) = true) := hc
          clear HS HF hc
          have hd := digit_any c w
          have hl := letter_any c w
          cases h1 : letN c with
          | true =>
            rw [h1] at hl
            go_wp2_with fail
            refine same_mono hl ?_
            go_wp2
            go_round
            case rel => exact ⟨k + 1, by omega, by go_num, HS'⟩
            case measure => simp only [intOf]; omega
          | false =>
            rw [h1] at hl
            cases h2 : digN c with
            | true =>
              rw [h2] at hd
              go_wp2_with fail
              refine same_mono hl ?_
              go_wp2_with fail
              refine same_mono hd ?_
              go_wp2
              go_round
              case rel => exact ⟨k + 1, by omega, by go_num, HS'⟩
              case measure => simp only [intOf]; omega
            | false =>
              rw [h2] at hd
              by_cases h3 : c = 46
              · subst h3
                go_wp2_with fail
                refine same_mono hl ?_
                go_wp2_with fail
                refine same_mono hd ?_
                go_wp2
                go_round
                case rel => exact ⟨k + 1, by omega, by go_num, HS'⟩
                case measure => simp only [intOf]; omega
              · have h4 : c = 45 := by have := Hc.out; rw [h1, h2] at this; simpa [h3] using this
                subst h4
                go_wp2_with fail
                refine same_mono hl ?_
                go_wp2_with fail
                refine same_mono hd ?_
                go_wp2
                go_round
                case rel => exact ⟨k + 1, by omega, by go_num, HS'⟩
                case measure => simp only [intOf]; omega
        · have hg := HF.out (by simpa using hc)
          have Hc : (letN c || digN c || c == 46 || c == 45) = false := by simpa [chN] using hc
          clear HS HF hc
          have hd := digit_any c w
          have hl := letter_any c w
          simp only [Bool.or_eq_false_iff, beq_eq_false_iff_ne] at Hc
          obtain ⟨⟨⟨h1, h2⟩, h3⟩, h4⟩ := Hc
          rw [h1] at hl
          rw [h2] at hd
          have h3' : ((c : Int) != 46) = true := bne_iff_ne.2 (by omega)
          have h4' : ((c : Int) != 45) = true := bne_iff_ne.2 (by omega)
          have Hg : Hid (goodN x = false) := hg
          clear hg
          go_wp2_with fail
          refine same_mono hl ?_
          go_wp2_with fail
          refine same_mono hd ?_
          go_wp2
          go_ret
          refine ⟨?_, rfl⟩
          rw [Hg.out]
          rfl
      · have hkn : k = x.size := by omega
        have hg : goodN x = true := by
          rw [he'.out, ← List.take_of_length_le (l := x.data.toList) (i := k) (by rw [hkn]; exact Nat.le_refl _)]
          exact ha.out
        have Hg : Hid (goodN x = true) := hg
        clear ha he' hg
        go_wp2
        go_ret
        refine ⟨?_, rfl⟩
        rw [Hg.out]
        rfl
end Go.Proofs.Ytefgnehahedckaa

/-
  Contracts: the writes of a file leave the buffer: drop's closure, slices.IndexFunc and slices.DeleteFunc at writes.
-/
namespace Go.Proofs.Ytefgnehahedckaa
open Go.RowKit Go.Maps

/-- Writes as they lie: a file's block, and how many bytes. -/
def rowV (l : List (Nat × Nat)) : List Value := (l.map fun w => [Value.pointer (some ⟨w.1, 0, none⟩), .int .i64 (w.2 : Nat)]).flatten
theorem rowV_cons (w : Nat × Nat) (l : List (Nat × Nat)) : rowV (w :: l) = .pointer (some ⟨w.1, 0, none⟩) :: .int .i64 (w.2 : Nat) :: rowV l := rfl
theorem rowV_writes (φ : ByteArray → Nat) (l : List (ByteArray × Nat)) : writesV φ l = rowV (l.map fun w => (φ w.1, w.2)) := by
  unfold writesV rowV
  rw [List.map_map]
  rfl
theorem rowV_length : ∀ l : List (Nat × Nat), (rowV l).length = l.length * 2
  | [] => rfl
  | w :: l => by rw [rowV_cons, List.length_cons, List.length_cons, rowV_length l, List.length_cons]; omega
theorem rowV_file : ∀ {l : List (Nat × Nat)} {i : Nat}, i < l.length → (rowV l)[i * 2]? = some (.pointer (some ⟨(l.getD i default).1, 0, none⟩))
  | [], i, h => by cases h
  | w :: l, 0, _ => rfl
  | w :: l, i + 1, h => by
    rw [rowV_cons, show (i + 1) * 2 = i * 2 + 1 + 1 by omega, List.getElem?_cons_succ, List.getElem?_cons_succ, rowV_file (by simpa using h), List.getD_cons_succ]
theorem rowV_size : ∀ {l : List (Nat × Nat)} {i : Nat}, i < l.length → (rowV l)[i * 2 + 1]? = some (.int .i64 ((l.getD i default).2 : Nat))
  | [], i, h => by cases h
  | w :: l, 0, _ => rfl
  | w :: l, i + 1, h => by
    rw [rowV_cons, show (i + 1) * 2 + 1 = i * 2 + 1 + 1 + 1 by omega, List.getElem?_cons_succ, List.getElem?_cons_succ, rowV_size (by simpa using h), List.getD_cons_succ]
theorem rowV_set : ∀ (l : List (Nat × Nat)) (i : Nat) (x : Nat × Nat), ((rowV l).set (i * 2) (.pointer (some ⟨x.1, 0, none⟩))).set (i * 2 + 1) (.int .i64 (x.2 : Nat)) = rowV (l.set i x)
  | [], i, x => by simp [rowV]
  | p :: l, 0, x => rfl
  | p :: l, i + 1, x => by
    rw [rowV_cons, show (i + 1) * 2 = i * 2 + 1 + 1 by omega, List.set_cons_succ, List.set_cons_succ, List.set_cons_succ, List.set_cons_succ, rowV_set l i x, List.set_cons_succ, rowV_cons]
theorem rowV_take (l : List (Nat × Nat)) : ∀ k, rowV (l.take k) = (rowV l).take (k * 2) := by
  induction l with
  | nil => intro k; simp [rowV]
  | cons p l ih =>
    intro k
    cases k with
    | zero => simp [rowV]
    | succ k => rw [List.take_succ_cons, rowV_cons, ih k, rowV_cons, show (k + 1) * 2 = k * 2 + 1 + 1 by omega, List.take_succ_cons, List.take_succ_cons]

/-- A row of writes that the call made. -/
def OwnsW (w : World) (v : Value) (l : List (Nat × Nat)) : Prop := w.ownsRow 0 82 2 v l.length (rowV l)
theorem OwnsW.form {w : World} {v : Value} {l : List (Nat × Nat)} (h : OwnsW w v l) (h0 : 0 < l.length) : ∃ g cap, v = .slice (some ⟨g, 0, none⟩) l.length cap ∧ g < w.heap.size ∧ l.length ≤ cap ∧ (∀ i, i < l.length → w.cell? ⟨g, i * 2, none⟩ = some (.pointer (some ⟨(l.getD i default).1, 0, none⟩)) ∧ w.cell? ⟨g, i * 2 + 1, none⟩ = some (.int .i64 ((l.getD i default).2 : Nat))) ∧ (∀ j, w.frozen? ⟨g, j, none⟩ = false) ∧ (l.length : Int) ≤ 9223372036854775807 := by
  rcases h.2 with ⟨_, hn⟩ | ⟨g, cap, cur, rfl, hB, hg, hnc, hm, _, _⟩
  · omega
  · unfold maxLen at hm
    refine ⟨g, cap, rfl, (Array.getElem?_eq_some_iff.1 hg).1, hnc, fun i hi => ?_, World.ownsRow.frozenAt h, by omega⟩
    have hc := fun j u hj => World.ownsRow.cells h (g := g) rfl j u hj
    have h1 := hc _ _ (rowV_file hi)
    have h2 := hc _ _ (rowV_size hi)
    rw [Addr.add_lit, Nat.zero_add] at h1 h2
    exact ⟨h1, h2⟩
theorem OwnsW.len {w : World} {p : Option Addr} {n c : Nat} {l : List (Nat × Nat)} (h : OwnsW w (.slice p n c) l) : n = l.length := by
  rcases h.2 with ⟨e, hn⟩ | ⟨g, cap, cur, e, _⟩
  · simp only [Value.slice.injEq] at e; omega
  · simp only [Value.slice.injEq] at e; exact e.2.1
theorem OwnsW.set {w : World} {g n c : Nat} {l : List (Nat × Nat)} (h : OwnsW w (.slice (some ⟨g, 0, none⟩) n c) l) (i : Nat) (x : Nat × Nat) :
    OwnsW ((w.setCell ⟨g, i * 2, none⟩ (.pointer (some ⟨x.1, 0, none⟩))).setCell ⟨g, i * 2 + 1, none⟩ (.int .i64 (x.2 : Nat))) (.slice (some ⟨g, 0, none⟩) n c) (l.set i x) := by
  have hn := h.len
  subst hn
  obtain ⟨h1, g1⟩ := World.ownsRow.stored h (i * 2) (.pointer (some ⟨x.1, 0, none⟩))
  obtain ⟨h2, g2⟩ := World.ownsRow.stored h1 (i * 2 + 1) (.int .i64 (x.2 : Nat))
  unfold OwnsW
  rw [List.length_set, ← rowV_set]
  exact h2
theorem OwnsW.below {w w' : World} {v : Value} {l : List (Nat × Nat)} (h : OwnsW w v l) (hb : Below w.heap.size w w') : OwnsW w' v l := row_same h fun g hg => hb.block g (World.ownsRow.lt h g hg).2
/-- The row's beginning, behind what was stored beyond it. -/
theorem row_take {w : World} {B g n c k size : Nat} {e : TypeId} {xs : List Value} (h : w.ownsRow B e size (.slice (some ⟨g, 0, none⟩) n c) n xs) (hk : k ≤ n) : w.ownsRow B e size (.slice (some ⟨g, 0, none⟩) k c) k (xs.take (k * size)) := by
  have hkn : k * size ≤ n * size := Nat.mul_le_mul_right _ hk
  refine ⟨by rw [List.length_take, h.1]; omega, .inr ?_⟩
  rcases h.2 with ⟨e, _⟩ | ⟨g', cap, cur, e, hB, hg, hnc, hm, hs, ht⟩
  · cases e
  · simp only [Value.slice.injEq, Option.some.injEq, Addr.mk.injEq, and_true] at e
    obtain ⟨rfl, _, rfl⟩ := e
    refine ⟨g, c, cur, rfl, hB, hg, by omega, hm, hs, ?_⟩
    rw [← ht, List.take_take, Nat.min_eq_left hkn]
theorem row_clear {B g k c size : Nat} {e : TypeId} {xs : List Value} : ∀ (zs : List Value) (o : Nat) (w : World), w.ownsRow B e size (.slice (some ⟨g, 0, none⟩) k c) k xs → k * size ≤ o → (w.setCells g o zs).ownsRow B e size (.slice (some ⟨g, 0, none⟩) k c) k xs ∧ w.grownBy (w.setCells g o zs) (some g)
  | [], o, w, h, _ => ⟨h, rfl, rfl, rfl, Nat.le_refl _, fun _ _ _ => rfl⟩
  | z :: zs, o, w, h, ho => by
    obtain ⟨h1, g1⟩ := World.ownsRow.stored h o z
    rw [List.set_eq_of_length_le (by rw [h.1]; exact ho)] at h1
    obtain ⟨h2, g2⟩ := row_clear zs (o + 1) _ h1 (by omega)
    exact ⟨h2, ⟨g2.os.trans g1.os, g2.tape.trans g1.tape, g2.output.trans g1.output, Nat.le_trans g1.size g2.size, fun i hi hn => (g2.block i (Nat.lt_of_lt_of_le hi g1.size) hn).trans (g1.block i hi hn)⟩⟩
theorem zeroW (w : World) : (zeroValue 82).run Try.prog w = .ok (.agg #[.pointer none, .int .i64 0]) w := by kernel_rfl
/-- 'clear(s[i:])'. -/
theorem clear_row {w : World} {g n c k : Nat} {l : List (Nat × Nat)} (h : OwnsW w (.slice (some ⟨g, 0, none⟩) n c) l) (hk : k ≤ n) (ty : TypeId) :
    ∃ w', (Builtin.clear_ #[55] ty #[.slice (some ⟨g, k * 2, none⟩) (n - k) (c - k)]).run Try.prog w = .ok (.tuple #[]) w' ∧ OwnsW w' (.slice (some ⟨g, 0, none⟩) k c) (l.take k) ∧ w.grownBy w' (some g) := by
  have hn := h.len
  subst hn
  have ht := row_take h hk
  have hl : (l.take k).length = k := by rw [List.length_take]; omega
  rcases Nat.eq_zero_or_pos (l.length - k) with h0 | h0
  · refine ⟨w, ?_, ?_, rfl, rfl, rfl, Nat.le_refl _, fun _ _ _ => rfl⟩
    · rw [h0]
      simp [Builtin.clear_, run_underlying Try.underlying55]
    · unfold OwnsW
      rw [hl, rowV_take]
      exact ht
  · obtain ⟨m, hm⟩ : ∃ m, l.length - k = m + 1 := ⟨l.length - k - 1, by omega⟩
    have hzl : (Builtin.zeroCells #[.pointer none, .int .i64 0] (l.length - k)).toList.length = (l.length - k) * 2 := by simp [Builtin.zeroCells]
    have hcell : ∀ j, j < (l.length - k) * 2 → (w.cell? ⟨g, k * 2 + j, none⟩).isSome = true := by
      intro j hj
      have hj' : k * 2 + j < (rowV l).length := by rw [rowV_length]; omega
      have := World.ownsRow.cells h (g := g) rfl (k * 2 + j) _ (List.getElem?_eq_getElem hj')
      rw [Addr.add_lit, Nat.zero_add] at this
      rw [this]
      rfl
    have hst := run_storeCells_cells (P := Try.prog) g (k * 2) (Builtin.zeroCells #[.pointer none, .int .i64 0] (l.length - k)).toList 0 w (by rw [hzl]; simpa using hcell) (fun j _ => World.ownsRow.frozenAt h _) (by
      intro v hv
      obtain ⟨i, hi, rfl⟩ := List.mem_iff_getElem.1 hv
      simp only [Builtin.zeroCells]
      rcases Nat.mod_two_eq_zero_or_one i with e | e <;> simp [e, Value.oneCell'])
    simp only [Nat.add_zero] at hst
    obtain ⟨r1, r2⟩ := row_clear (Builtin.zeroCells #[.pointer none, .int .i64 0] (l.length - k)).toList (k * 2) w ht (Nat.le_refl _)
    refine ⟨_, ?_, ?_, r2⟩
    · rw [hm] at hst ⊢
      simp [Builtin.clear_, run_underlying Try.underlying55, Value.cells, hst]
    · unfold OwnsW
      rw [hl, rowV_take]
      exact r1
end Go.Proofs.Ytefgnehahedckaa
