import Derived.Test.YtefgnehahedckaaDkVTo
import Derived.Lib.BitFns
/-
  Contracts: New, Arm, Start, On, Ops, Used, Pending, Read of the disk.
-/
namespace Go.Proofs.Ytefgnehahedckaa
open Go.RowKit Go.Maps

section
variable {w w' : World} {d : Nat} {S : Nat → Prop} {φ : ByteArray → Nat} {σ : ByteArray → Value} {mb : Nat} {vb : Value} {R : RD} {M : DM}
theorem on_any (hD : DiskAt w d S M) : Calls Try.prog 29 #[.pointer (some ⟨d, 0, none⟩)] w fun e w' => e = .returned (.bool (!M.off)) ∧ w' = w := by
  cases hf : M.off with
  | true =>
    have hr := ready_off hD hf
    go_enter Try.func29, Try.ntmps29
    go_wp2_with fail
    refine same_mono hr ?_
    go_wp2
    go_ret
    exact ⟨rfl, rfl⟩
  | false =>
    have hr := ready_on hD hf
    go_enter Try.func29, Try.ntmps29
    go_wp2_with fail
    refine same_mono hr ?_
    go_wp2
    go_ret
    exact ⟨rfl, rfl⟩
theorem ops_any (hD : DiskAt w d S M) : Calls Try.prog 30 #[.pointer (some ⟨d, 0, none⟩)] w fun e w' => e = .returned (.int .i64 (M.ops : Nat)) ∧ w' = w := by
  obtain ⟨φ, σ, mb, vb, mn, kv, h, -⟩ := hD
  obtain ⟨c0, -, -, -, -, -, c6, -⟩ := h.cells
  have c6' : w.cell? ⟨d, 6, none⟩ = some (.int .i64 (M.ops : Nat)) := c6
  have hm := made_any8 d (some mb) w c0
  clear c6
  go_enter Try.func30, Try.ntmps30
  go_wp2_with fail
  refine same_mono hm ?_
  go_wp2
  go_ret
  exact ⟨rfl, rfl⟩
def DM.usedT (M : DM) : Nat := if M.off = true then 0 else M.used
def DM.pendT (M : DM) : Nat := if M.off = true then 0 else tot M.buf
theorem used_any (hD : DiskAt w d S M) : Calls Try.prog 24 #[.pointer (some ⟨d, 0, none⟩)] w fun e w' => e = .returned (.int .i64 (M.usedT : Nat)) ∧ w' = w := by
  have hon := on_any hD
  unfold DM.usedT
  cases hf : M.off with
  | true =>
    rw [hf] at hon
    go_enter Try.func24, Try.ntmps24
    go_wp2_with fail
    refine same_mono hon ?_
    go_wp2
    go_ret
    exact ⟨rfl, rfl⟩
  | false =>
    rw [hf] at hon
    obtain ⟨φ, σ, mb, vb, mn, kv, h, -⟩ := hD
    obtain ⟨-, -, -, -, c4, -⟩ := h.cells
    have c4' : w.cell? ⟨d, 4, none⟩ = some (.int .i64 (M.used : Nat)) := c4
    clear c4
    rw [if_neg (by decide)]
    go_enter Try.func24, Try.ntmps24
    go_wp2_with fail
    refine same_mono hon ?_
    go_wp2
    go_ret
    exact ⟨rfl, rfl⟩
theorem pending_any (hD : DiskAt w d S M) : Calls Try.prog 19 #[.pointer (some ⟨d, 0, none⟩)] w fun e w' => e = .returned (.int .i64 (M.pendT : Nat)) ∧ w' = w := by
  have hon := on_any hD
  unfold DM.pendT
  cases hf : M.off with
  | true =>
    rw [hf] at hon
    go_enter Try.func19, Try.ntmps19
    go_wp2_with fail
    refine same_mono hon ?_
    go_wp2
    go_ret
    exact ⟨rfl, rfl⟩
  | false =>
    rw [hf] at hon
    obtain ⟨φ, σ, mb, vb, mn, kv, h, -⟩ := hD
    obtain ⟨-, -, c2, -⟩ := h.cells
    have c2' : w.cell? ⟨d, 2, none⟩ = some (.int .i64 (tot M.buf : Nat)) := c2
    clear c2
    rw [if_neg (by decide)]
    go_enter Try.func19, Try.ntmps19
    go_wp2_with fail
    refine same_mono hon ?_
    go_wp2
    go_ret
    exact ⟨rfl, rfl⟩
set_option maxRecDepth 10000 in
theorem start_any (hD : DiskAt w d S M) : Calls Try.prog 22 #[.pointer (some ⟨d, 0, none⟩)] w fun e w' => (∃ v, e = .returned v) ∧ DiskAt w' d S M.start ∧ Turn S w w' := by
  obtain ⟨φ, σ, mb, vb, mn, kv, h, -⟩ := hD
  obtain ⟨c0, -, -, -, -, c5, -, c7, c8, cf⟩ := h.cells
  have hm := made_any8 d (some mb) w c0
  have f5 := cf 5
  have f7 := cf 7
  have f8 := cf 8
  have h1 := h.setD 5 (.bool true) { M.raw mn kv with on := true } rfl rfl rfl rfl rfl rfl
  have h2 := h1.setD 7 (.int .i64 0) { M.raw mn kv with on := true, armed := 0 } rfl rfl rfl rfl rfl rfl
  have h3 := h2.setD 8 (.int .i64 0) { M.raw mn kv with on := true, armed := 0, keep := 0 } rfl rfl rfl rfl rfl rfl
  have t3 := (((Turn.refl S w).setCell (p := ⟨d, 5, none⟩) (.inl h.sD) (.bool true)).setCell (p := ⟨d, 7, none⟩) (.inl h.sD) (.int .i64 0)).setCell (p := ⟨d, 8, none⟩) (.inl h.sD) (.int .i64 0)
  clear h1 h2
  go_enter Try.func22, Try.ntmps22
  go_wp2_with fail
  refine same_mono hm ?_
  go_wp2
  go_end0
  exact ⟨⟨_, rfl⟩, ⟨φ, σ, mb, vb, mn, 0, h3.congr (fun _ => Iff.rfl) (fun _ _ => rfl) (fun _ _ => rfl) rfl rfl rfl rfl rfl rfl rfl rfl rfl, fun h => absurd rfl h⟩, t3⟩
set_option maxRecDepth 10000 in
theorem arm_any (hD : DiskAt w d S M) (n k : Int) (hn : -9223372036854775808 ≤ n ∧ n ≤ 9223372036854775807) : Calls Try.prog 28 #[.pointer (some ⟨d, 0, none⟩), .int .i64 n, .int .i64 k] w fun e w' => e = .returned (.int .i64 ((M.arm n k).1 : Nat)) ∧ DiskAt w' d S (M.arm n k).2 ∧ Turn S w w' := by
  cases hf : M.off with
  | true =>
    have e : M.arm n k = (9, M) := by unfold DM.arm; rw [if_pos hf]
    rw [e]
    have hr := ready_off hD hf
    go_enter Try.func28, Try.ntmps28
    go_wp2_with fail
    refine same_mono hr ?_
    go_wp2
    go_ret
    exact ⟨rfl, hD, Turn.refl _ _⟩
  | false =>
    have e : M.arm n k = (0, { M with n := n.toNat, keep := k }) := by unfold DM.arm; rw [if_neg (by rw [hf]; decide)]
    rw [e]
    have hr := ready_on hD hf
    obtain ⟨φ, σ, mb, vb, mn, kv, h, -⟩ := hD
    obtain ⟨-, -, -, -, -, -, -, c7, c8, cf⟩ := h.cells
    have f7 := cf 7
    have f8 := cf 8
    by_cases hn0 : 0 ≤ n
    · have h1 := h.setD 7 (.int .i64 n) { M.raw mn kv with armed := n } rfl rfl rfl rfl rfl rfl
      have h2 := h1.setD 8 (.int .i64 k) { M.raw mn kv with armed := n, keep := k } rfl rfl rfl rfl rfl rfl
      have t2 := ((Turn.refl S w).setCell (p := ⟨d, 7, none⟩) (.inl h.sD) (.int .i64 n)).setCell (p := ⟨d, 8, none⟩) (.inl h.sD) (.int .i64 k)
      clear h1
      go_enter Try.func28, Try.ntmps28
      go_wp2_with fail
      refine same_mono hr ?_
      go_wp2
      go_ret
      refine ⟨rfl, ⟨φ, σ, mb, vb, mn, k, h2.congr (fun _ => Iff.rfl) (fun _ _ => rfl) (fun _ _ => rfl) rfl rfl rfl rfl rfl rfl rfl ?_ rfl, fun _ => rfl⟩, t2⟩
      show ((n.toNat : Nat) : Int) = n
      omega
    · have hn0' : n < 0 := by omega
      have h1 := h.setD 7 (.int .i64 0) { M.raw mn kv with armed := 0 } rfl rfl rfl rfl rfl rfl
      have h2 := h1.setD 8 (.int .i64 k) { M.raw mn kv with armed := 0, keep := k } rfl rfl rfl rfl rfl rfl
      have t2 := ((Turn.refl S w).setCell (p := ⟨d, 7, none⟩) (.inl h.sD) (.int .i64 0)).setCell (p := ⟨d, 8, none⟩) (.inl h.sD) (.int .i64 k)
      clear h1
      go_enter Try.func28, Try.ntmps28
      go_wp2_with fail
      refine same_mono hr ?_
      go_wp2
      go_ret
      refine ⟨rfl, ⟨φ, σ, mb, vb, mn, k, h2.congr (fun _ => Iff.rfl) (fun _ _ => rfl) (fun _ _ => rfl) rfl rfl rfl rfl rfl rfl rfl ?_ rfl, fun _ => rfl⟩, t2⟩
      show ((n.toNat : Nat) : Int) = 0
      omega
end
theorem new_bad (b : Int) (w : World) (hb : b < 0 ∨ 16777216 < b) : Calls Try.prog 9 #[.int .i64 b] w fun e w' => e = .returned (.pointer none) ∧ w' = w := by
  by_cases h0 : b < 0
  · go_enter Try.func9, Try.ntmps9
    go_wp2
    go_ret
    exact ⟨rfl, rfl⟩
  · have h1 : 16777216 < b := by omega
    have h0' : 0 ≤ b := by omega
    go_enter Try.func9, Try.ntmps9
    go_wp2
    go_ret
    exact ⟨rfl, rfl⟩
set_option maxRecDepth 10000 in
theorem new_good (b : Nat) (w : World) (hb : b ≤ 16777216) : Calls Try.prog 9 #[.int .i64 (b : Nat)] w fun e w' => e = .returned (.pointer (some ⟨w.heap.size + 1, 0, none⟩)) ∧ DiskAt w' (w.heap.size + 1) (fun k => w.heap.size ≤ k ∧ k < w'.heap.size) (DM.empty b) ∧ Below w.heap.size w w' := by
  have hmm := @run_makeMap Try.prog
  have hb' : (b : Int) ≤ 16777216 := by omega
  have hm := MapAt.made w (fun _ => 0)
  go_enter Try.func9, Try.ntmps9
  go_wp2
  go_ret
  have hA := heap_alloc_new (w.alloc (.map #[] 0)) (.cells #[.map (some w.heap.size), .slice none 0 0, .int .i64 0, .int .i64 (b : Nat), .int .i64 0, .bool true, .int .i64 0, .int .i64 0, .int .i64 0] 57)
  rw [World.size_alloc] at hA
  refine ⟨rfl, ⟨fun _ => 0, fun _ => .slice none 0 0, w.heap.size, .slice none 0 0, 0, 0, ?_, fun h => absurd rfl h⟩, ((Below.refl _ _).alloc (Nat.le_refl _) _).alloc (by simp) _⟩
  refine ⟨hA, hm.same (Below.heap_alloc _ _ _ (by simp)), World.ownsRow_nil _ _ _ _, (fun x hx => by cases hx), (fun x hx => by cases hx), (fun x hx => by cases hx), (fun x hx => by cases hx), (fun x hx => by cases hx), ⟨by omega, by simp⟩, ⟨Nat.le_refl _, by simp; omega⟩, (fun g hg => by cases hg), (fun x hx => by cases hx), fun x hx => by cases hx⟩
end Go.Proofs.Ytefgnehahedckaa

/-
  Contracts: slices.Clone of bytes, Read, Spoil of the disk; what a bit that is turned makes of the document's disk.
-/
namespace Go.Proofs.Ytefgnehahedckaa
open Go.RowKit Go.Maps

theorem equal_slice8 {P : Program} (d : Nat) (t e : TypeId) (a : Addr) (n c : Nat) (W : World) (h : P.underlying t = some (.slice e)) : (Op.equalIn (d + 1) t (.slice (some a) n c) (.slice none 0 0)).run P W = .ok false W := by
  simp [Op.equalIn, run_underlying h]
theorem sliceB_nil (a : Addr) (n c : Nat) (W : World) : (binOp .eql 29 (.slice (some a) n c) (.slice none 0 0)).run Try.prog W = .ok (.bool false) W := by
  simp [binOp, go_sem]
  show ((Op.equalIn (9999 + 1) 29 (.slice (some a) n c) (.slice none 0 0)).run Try.prog W).andThen _ = _
  rw [equal_slice8 9999 _ _ a n c W Try.underlying29]
  rfl
theorem equal_slice9 {P : Program} (d : Nat) (t e : TypeId) (W : World) (h : P.underlying t = some (.slice e)) : (Op.equalIn (d + 1) t (.slice none 0 0) (.slice none 0 0)).run P W = .ok true W := by
  simp [Op.equalIn, run_underlying h]
theorem sliceB_nil2 (W : World) : (binOp .eql 29 (.slice none 0 0) (.slice none 0 0)).run Try.prog W = .ok (.bool true) W := by
  simp [binOp, go_sem]
  show ((Op.equalIn (9999 + 1) 29 (.slice none 0 0) (.slice none 0 0)).run Try.prog W).andThen _ = _
  rw [equal_slice9 9999 _ _ W Try.underlying29]
  rfl
set_option maxRecDepth 10000 in
theorem clone8 {v : Value} {xs : List Int} (w : World) (h : Has w v xs) (hl : xs.length ≤ 1099511627776) :
    Calls Try.prog 61 #[v] w fun e w' => (∃ v', e = .returned v' ∧ Owns w' w.heap.size 5 v' xs) ∧ Below w.heap.size w w' := by
  have hR := hasR_of_has h
  obtain ⟨p, c, rfl, h1, h2, h3⟩ := h
  obtain ⟨n, Hn⟩ : ∃ n, Hid (xs.length = n) := ⟨_, rfl⟩
  rw [Hn.out] at hR h1 h3 hl ⊢
  cases p with
  | none =>
    obtain rfl := h2 rfl
    obtain rfl : n = 0 := by omega
    obtain rfl : xs = [] := List.eq_nil_of_length_eq_zero Hn.out
    have hnil := sliceB_nil2
    go_enter Try.func61, Try.ntmps61
    go_wp2
    go_ret
    exact ⟨⟨_, rfl, Owns.nil _ _ _⟩, Below.refl _ _⟩
  | some a =>
    have hnil := sliceB_nil a n c
    have he := Owns.empty w w.heap.size 5 (Nat.le_refl _)
    have hba : Below w.heap.size w (w.alloc (.cells #[] 5)) := (Below.refl _ _).alloc (Nat.le_refl _) _
    have hR' : HasR (w.alloc (.cells #[] 5)) 1 (.slice (some a) n c) n (cellsB xs) := by
      obtain ⟨p, c', e, q1, q2, q3, q4⟩ := hR
      refine ⟨p, c', e, q1, q2, q3, fun h0 => ?_⟩
      obtain ⟨b, o, e, hb, hc⟩ := q4 h0
      exact ⟨b, o, e, Nat.lt_of_lt_of_le hb hba.size, fun j u hj => (hba.cell (p := ⟨b, o + j, none⟩) hb).trans (hc j u hj)⟩
    have hsz : w.heap.size ≤ (w.alloc (.cells #[] 5)).heap.size := hba.size
    have h0n : 0 + n ≤ 1099511627776 := by omega
    have h0m : (0 + n) * 1 ≤ 140737488355328 := by omega
    go_enter Try.func61, Try.ntmps61
    go_wp2_with (at_builtin; refine ap_row elemB _ rfl _ _ rfl w.heap.size _ _ 0 n [] (cellsB xs) rfl rfl hR' (cellsB_one _) he h0n h0m hsz ?_; intro v' w' hown' hgrow hwh; refine Halt8.out ?_)
    rw [Nat.zero_add, List.nil_append] at hown'
    have hb : Below w.heap.size w w' := hba.trans ((Below.refl _ _).grown hgrow hsz fun k hk => (World.ownsRow.lt he k hk).1)
    obtain ⟨p', c', rfl⟩ := writes_shape hown'
    have ho : Owns w' w.heap.size 5 (.slice p' n c') xs := by unfold Owns; rw [Hn.out]; exact hown'
    clear hgrow hwh hown' hR hR' he
    constructor
    go_wp2
    go_ret
    exact ⟨⟨_, rfl, ho⟩, hb⟩
section
variable {w w' : World} {d : Nat} {S : Nat → Prop} {φ : ByteArray → Nat} {σ : ByteArray → Value} {mb : Nat} {vb : Value} {R : RD} {M : DM}
/-- What Read tells: the bytes, and the error. -/
def DM.readE (M : DM) (x : ByteArray) : Nat := if M.off = true then 9 else if x ∉ M.names then 4 else 0
def DM.readB (M : DM) (x : ByteArray) : List Int := if M.off = true then [] else if x ∉ M.names then [] else M.bytes x
set_option maxRecDepth 10000 in
theorem read_any (hD : DiskAt w d S M) (hI : M.Inv) {x : ByteArray} (hs : x.size ≤ maxLen) :
    Calls Try.prog 23 #[.pointer (some ⟨d, 0, none⟩), .string x] w fun e w' => (∃ v, e = .returned (.tuple #[v, .int .i64 (M.readE x : Nat)]) ∧ Owns w' w.heap.size 5 v (M.readB x)) ∧ Below w.heap.size w w' := by
  cases hf : M.off with
  | true =>
    have e1 : M.readE x = 9 := by unfold DM.readE; rw [if_pos hf]
    have e2 : M.readB x = [] := by unfold DM.readB; rw [if_pos hf]
    rw [e1, e2]
    have hr := findM_off hD x hf
    go_enter Try.func23, Try.ntmps23
    go_wp2_with fail
    refine same_mono hr ?_
    go_wp2
    go_ret2
    exact ⟨⟨_, rfl, Owns.nil _ _ _⟩, Below.refl _ _⟩
  | false =>
    have hf' : ¬ M.off = true := by rw [hf]; decide
    by_cases hx : x ∈ M.names
    · have e1 : M.readE x = 0 := by unfold DM.readE; rw [if_neg hf', if_neg (fun h => h hx)]
      have e2 : M.readB x = M.bytes x := by unfold DM.readB; rw [if_neg hf', if_neg (fun h => h hx)]
      rw [e1, e2]
      obtain ⟨φ, σ, mb, vb, mn, kv, h, -⟩ := hD
      have hfi := findM_yes h hs hf hx
      obtain ⟨k0, -, -⟩ := h.fcells hx
      have ho := h.row x hx
      change Owns w 0 5 (σ x) (M.bytes x) at ho
      obtain ⟨px, cx, hσ⟩ := ho.shape
      rw [hσ] at k0 ho
      clear hσ
      have hcl := clone8 w ho.has (by have := hI.size x; omega)
      go_enter Try.func23, Try.ntmps23
      go_wp2_with fail
      refine same_mono hfi ?_
      go_wp2_with fail
      refine hcl.mono ?_
      rintro e w2 ⟨⟨v', rfl, ho2⟩, hb2⟩
      obtain ⟨p', c', rfl⟩ := ho2.shape
      go_wp2
      go_ret2
      exact ⟨⟨_, rfl, ho2⟩, hb2⟩
    · have e1 : M.readE x = 4 := by unfold DM.readE; rw [if_neg hf', if_pos hx]
      have e2 : M.readB x = [] := by unfold DM.readB; rw [if_neg hf', if_pos hx]
      rw [e1, e2]
      have hr := findM_none hD hs hf hx
      go_enter Try.func23, Try.ntmps23
      go_wp2_with fail
      refine same_mono hr ?_
      go_wp2
      go_ret2
      exact ⟨⟨_, rfl, Owns.nil _ _ _⟩, Below.refl _ _⟩
end

theorem flipB_wrs : ∀ (buf : List (ByteArray × List Int)) (x : ByteArray) (i : Nat) (y : Int), wrs (flipB buf x i y) = wrs buf ∧ tot (flipB buf x i y) = tot buf
  | [], _, _, _ => ⟨rfl, rfl⟩
  | w :: r, x, i, y => by
    rw [flipB]
    split
    · split
      · refine ⟨?_, ?_⟩
        · show (w.1, (w.2.set i _).length) :: wrs r = (w.1, w.2.length) :: wrs r
          rw [List.length_set]
        · rw [tot, tot, List.length_set]
      · obtain ⟨h1, h2⟩ := flipB_wrs r x (i - w.2.length) y
        exact ⟨by show _ :: wrs (flipB _ _ _ _) = _ :: wrs r; rw [h1], by rw [tot, tot, h2]⟩
    · obtain ⟨h1, h2⟩ := flipB_wrs r x i y
      exact ⟨by show _ :: wrs (flipB _ _ _ _) = _ :: wrs r; rw [h1], by rw [tot, tot, h2]⟩
theorem flipB_other : ∀ (buf : List (ByteArray × List Int)) (x z : ByteArray) (i : Nat) (y : Int), z ≠ x → pend (flipB buf x i y) z = pend buf z
  | [], _, _, _, _, _ => rfl
  | w :: r, x, z, i, y, h => by
    rw [flipB]
    split
    · rename_i hw
      split
      · rw [pend, pend, if_neg (by rw [hw]; exact Ne.symm h), if_neg (by rw [hw]; exact Ne.symm h)]
      · rw [pend, pend, flipB_other r x z _ y h]
    · rw [pend, pend, flipB_other r x z _ y h]
theorem flipB_pend : ∀ (buf : List (ByteArray × List Int)) (x : ByteArray) (i : Nat) (y : Int), i < (pend buf x).length → pend (flipB buf x i y) x = (pend buf x).set i (xor8 ((pend buf x).getD i 0) y)
  | [], _, _, _, h => by simp [pend] at h
  | w :: r, x, i, y, h => by
    rw [pend] at h ⊢
    rw [flipB]
    by_cases hw : w.1 = x
    · rw [if_pos hw] at h ⊢
      rw [if_pos hw]
      split
      · rename_i hi
        rw [pend, if_pos hw, List.set_append_left _ _ hi, List.getD_eq_getElem?_getD, List.getD_eq_getElem?_getD, List.getElem?_append_left hi]
      · rename_i hi
        rw [List.length_append] at h
        rw [pend, if_pos hw, flipB_pend r x (i - w.2.length) y (by omega), List.set_append_right _ _ (by omega), List.getD_eq_getElem?_getD, List.getD_eq_getElem?_getD, List.getElem?_append_right (by omega)]
    · rw [if_neg hw] at h ⊢
      rw [if_neg hw, pend, if_neg hw]
      rw [List.nil_append] at h ⊢
      rw [List.nil_append]
      exact flipB_pend r x i y h
theorem flipL_lk {l : List (ByteArray × List Int)} (x : ByteArray) (i : Nat) (y : Int) (z : ByteArray) : lk (flipL l x i y) z = if z = x then (lk l z).set i (xor8 ((lk l z).getD i 0) y) else lk l z := by
  induction l with
  | nil => simp [flipL, lk]
  | cons f r ih =>
    show lk ((if f.1 = x then (f.1, f.2.set i (xor8 (f.2.getD i 0) y)) else f) :: flipL r x i y) z = _
    rw [lk, lk, ih]
    by_cases hf : f.1 = x
    · rw [if_pos hf]
      by_cases hz : f.1 = z
      · rw [if_pos hz, if_pos hz, if_pos (by rw [← hz]; exact hf)]
      · rw [if_neg hz, if_neg hz]
    · rw [if_neg hf]
      by_cases hz : f.1 = z
      · rw [if_pos hz, if_pos hz, if_neg (by rw [← hz]; exact hf)]
      · rw [if_neg hz, if_neg hz]
theorem flipL_nms (l : List (ByteArray × List Int)) (x : ByteArray) (i : Nat) (y : Int) : nms (flipL l x i y) = nms l := by
  unfold nms flipL
  rw [List.map_map]
  refine List.map_congr_left fun f _ => ?_
  show (if f.1 = x then (f.1, f.2.set i (xor8 (f.2.getD i 0) y)) else f).1 = f.1
  split <;> rfl
/-- A bit of a file's bytes is turned, in the buffer or not. -/
theorem flip_bytes {M : DM} {x : ByteArray} {i : Nat} (y : Int) (hi : i < (M.bytes x).length) (z : ByteArray) : (M.flip x i y).bytes z = upd M.bytes x ((M.bytes x).set i (xor8 ((M.bytes x).getD i 0) y)) z ∧ (lk (M.flip x i y).L z).length = (lk M.L z).length ∧ (M.flip x i y).names = M.names := by
  unfold DM.flip
  split
  · rename_i hl
    refine ⟨?_, ?_, flipL_nms _ _ _ _⟩
    · show lk (flipL M.L x i y) z ++ pend M.buf z = _
      rw [flipL_lk]
      by_cases hz : z = x
      · subst hz
        rw [if_pos rfl, upd_at]
        unfold DM.bytes
        rw [List.set_append_left _ _ hl, List.getD_eq_getElem?_getD, List.getD_eq_getElem?_getD, List.getElem?_append_left hl]
      · rw [if_neg hz, upd_ne hz]
        rfl
    · show (lk (flipL M.L x i y) z).length = _
      rw [flipL_lk]
      split
      · rw [List.length_set]
      · rfl
  · rename_i hl
    refine ⟨?_, rfl, rfl⟩
    show lk M.L z ++ pend (flipB M.buf x (i - (lk M.L x).length) y) z = _
    by_cases hz : z = x
    · subst hz
      rw [upd_at]
      unfold DM.bytes at hi ⊢
      rw [List.length_append] at hi
      rw [flipB_pend _ _ _ _ (by omega), List.set_append_right _ _ (by omega), List.getD_eq_getElem?_getD, List.getD_eq_getElem?_getD, List.getElem?_append_right (by omega)]
    · rw [flipB_other _ _ _ _ _ hz, upd_ne hz]
      rfl
end Go.Proofs.Ytefgnehahedckaa
