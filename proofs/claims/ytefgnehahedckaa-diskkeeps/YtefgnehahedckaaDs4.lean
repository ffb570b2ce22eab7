/-
  The walk of corbellaw08.DiskFails.
-/
import Derived.Test.YtefgnehahedckaaDs3
import Derived.Test.YtefgnehahedckaaDs0
namespace Go.Proofs.Ytefgnehahedckaa
open Go.RowKit Go.Maps

theorem pend_rep (x : ByteArray) (b : List Int) : ∀ j, (pend (List.replicate j (x, b)) x).length = j * b.length
  | 0 => by simp [pend]
  | j + 1 => by rw [List.replicate_succ, pend, if_pos rfl, List.length_append, pend_rep x b j, Nat.succ_mul, Nat.add_comm]
theorem left_rep (x : ByteArray) (b : List Int) : ∀ j n, (left n (List.replicate j (x, b)) x).length = min n (j * b.length)
  | 0, n => by simp [left]
  | j + 1, n => by
    rw [List.replicate_succ, left, if_pos rfl, List.length_append, left_rep x b j, List.length_take, Nat.succ_mul]
    show min n b.length + min (n - b.length) (j * b.length) = _
    omega
/-- The disk behind j writes, of which the a-th operation will fail. -/
def fl (a : Nat) (k : Int) (data : List Int) (j : Nat) : DM := ⟨10000, [(tA, [])], List.replicate j (tA, data), false, 1 + j, 1 + a - j, k⟩
theorem goodA : goodN tA = true := by decide +kernel
theorem fl_used (a : Nat) (k : Int) (data : List Int) (j : Nat) : (fl a k data j).used = need (j * data.length) := by
  show usedL (List.replicate j (tA, data)) [(tA, [])] = _
  rw [usedL, usedL, pend_rep]
  simp
theorem fl_bytes (a : Nat) (k : Int) (data : List Int) (j : Nat) : ((fl a k data j).bytes tA).length = j * data.length := by
  show (lk [(tA, [])] tA ++ pend (List.replicate j (tA, data)) tA).length = _
  rw [lk, if_pos rfl, List.nil_append, pend_rep]
theorem fl_step {a : Nat} {k : Int} {data : List Int} {j : Nat} (hj : j < a) (ha : a < 20) (hd : data.length ≤ 1000) : (fl a k data j).append tA data = (0, fl a k data (j + 1)) := by
  have hb : (fl a k data j).begins = true := by
    unfold DM.begins
    refine decide_eq_true ?_
    show 1 + a - j ≠ 1
    omega
  have hg : (fl a k data j).begun = { fl a k data j with ops := 1 + (j + 1), n := 1 + a - (j + 1) } := by
    unfold DM.begun
    rw [if_neg (by show ¬ 1 + a - j = 1; omega)]
    show (⟨_, _, _, _, 1 + j + 1, 1 + a - j - 1, _⟩ : DM) = ⟨_, _, _, _, 1 + (j + 1), 1 + a - (j + 1), _⟩
    congr 1
  have hx : tA ∈ (fl a k data j).names := by show tA ∈ [tA]; exact List.mem_cons_self
  unfold DM.append DM.act
  rw [if_neg (show ¬ (fl a k data j).off = true from Bool.noConfusion), if_neg (fun h => h hx), hb, if_pos rfl, hg]
  show DM.append1 { fl a k data j with ops := 1 + (j + 1), n := 1 + a - (j + 1) } tA data = _
  unfold DM.append1
  have hu : DM.used { fl a k data j with ops := 1 + (j + 1), n := 1 + a - (j + 1) } = need (j * data.length) := fl_used a k data j
  have hm : DM.more { fl a k data j with ops := 1 + (j + 1), n := 1 + a - (j + 1) } tA data = need (j * data.length + data.length) - need (j * data.length) := by
    have := fl_bytes a k data j
    unfold DM.more
    rw [show DM.bytes { fl a k data j with ops := 1 + (j + 1), n := 1 + a - (j + 1) } tA = (fl a k data j).bytes tA from rfl, this]
  have hjm : j * data.length + data.length ≤ 20000 := by
    have h1 : j * data.length ≤ 19 * 1000 := Nat.mul_le_mul (by omega) hd
    omega
  have hn1 : need (j * data.length + data.length) ≤ 313 := by unfold need; omega
  rw [hu, hm, if_neg (by show ¬ 10000 - _ < _; have := need_mono (n := j * data.length) (m := j * data.length + data.length) (by omega); omega)]
  show (0, (⟨10000, [(tA, [])], List.replicate j (tA, data) ++ [(tA, data)], false, 1 + (j + 1), 1 + a - (j + 1), k⟩ : DM)) = _
  rw [← List.replicate_succ']
  rfl
/-- The disk behind the operation that failed. -/
def flF (a : Nat) (k : Int) (data : List Int) : DM := ⟨10000, [(tA, left k.toNat (List.replicate a (tA, data)) tA)], [], true, 2 + a, 0, k⟩
theorem fl_fails (a : Nat) (k : Int) (data : List Int) : (fl a k data a).syncs = (9, flF a k data) := by
  have hb : (fl a k data a).begins = false := by
    unfold DM.begins
    refine decide_eq_false ?_
    show ¬ 1 + a - a ≠ 1
    omega
  have hg : (fl a k data a).begun = flF a k data := by
    unfold DM.begun
    rw [if_pos (by show 1 + a - a = 1; omega)]
    show (⟨10000, [(tA, [] ++ left k.toNat (List.replicate a (tA, data)) tA)], [], true, 1 + a + 1, 0, k⟩ : DM) = _
    unfold flF
    rw [List.nil_append, show 1 + a + 1 = 2 + a by omega]
  unfold DM.syncs DM.act
  rw [if_neg (show ¬ (fl a k data a).off = true from Bool.noConfusion), hb, hg]
  rfl
theorem flF_says (a : Nat) (k : Int) (data : List Int) : (flF a k data).syncs = (9, flF a k data) ∧ (flF a k data).create tB = (9, flF a k data) ∧ (flF a k data).start.readE tA = 0 ∧ ((flF a k data).start.readB tA).length = min k.toNat (a * data.length) ∧ (flF a k data).start.syncs.1 = 0 ∧ (flF a k data).start.syncs.2.listT = [tA] := by
  refine ⟨rfl, rfl, rfl, ?_, rfl, rfl⟩
  show (lk [(tA, left k.toNat (List.replicate a (tA, data)) tA)] tA ++ pend [] tA).length = _
  rw [lk, if_pos rfl, pend, List.append_nil, left_rep]
theorem fl_start (a : Nat) (k : Int) (data : List Int) : ((DM.empty 10000).create tA) = (0, ⟨10000, [(tA, [])], [], false, 1, 0, 0⟩) ∧ (DM.arm ⟨10000, [(tA, [])], [], false, 1, 0, 0⟩ (1 + (a : Int)) k) = (0, fl a k data 0) := by
  refine ⟨rfl, ?_⟩
  unfold DM.arm
  rw [if_neg (show ¬ (false = true) by decide)]
  show (0, (⟨10000, [(tA, [])], [], false, 1, (1 + (a : Int)).toNat, k⟩ : DM)) = (0, ⟨10000, [(tA, [])], [], false, 1 + 0, 1 + a - 0, k⟩)
  rw [show (1 + (a : Int)).toNat = 1 + a by omega]
  rfl

theorem HasT8.of_owns {w : World} {B : Nat} {v : Value} {xs : List ByteArray} (h : w.ownsRow B 9 1 v xs.length (textsV8 xs)) : HasT8 w v xs := by
  rcases id h.2 with ⟨rfl, hn⟩ | ⟨g, cap, cur, rfl, hB, hg, hnc, _, _, _⟩
  · exact ⟨none, 0, by rw [hn], by omega, fun _ => rfl, fun h0 => by omega⟩
  · refine ⟨_, _, rfl, hnc, fun h => (by cases h), fun h0 => ⟨g, 0, rfl, (World.ownsRow.lt h g rfl).2, fun i hi => ?_⟩⟩
    rw [Nat.zero_add, World.ownsRow.cellAt h i (by omega)]
    unfold textsV8
    rw [List.getElem?_map, List.getElem?_eq_getElem hi, List.getD_eq_getElem?_getD, List.getElem?_eq_getElem hi]
    rfl
/-- Bytes that were there ahead of the law are not the disk's. -/
theorem Disk8.old {w0 w : World} {d : Nat} {S : Nat → Prop} {M : DM} (h : Disk8 w0 w d S M) {v : Value} {xs : List Int} (hv : Has w0 v xs) : HasX w S v xs := by
  obtain ⟨p, c, rfl, h1, h2, h3⟩ := hv
  refine ⟨p, c, rfl, h1, h2, fun h0 => ?_⟩
  obtain ⟨b, o, rfl, hb, hc⟩ := h3 h0
  exact ⟨b, o, rfl, fun hs => absurd (h.own b hs).1 (by omega), Nat.lt_of_lt_of_le hb h.bel.size, fun i hi => (h.bel.cell (p := ⟨b, o + i, none⟩) hb).trans (hc i hi)⟩
theorem lit_text (w : World) (x : ByteArray) : HasT8 (w.alloc (.cells #[Value.string x] 9)) (.slice (some ⟨w.heap.size, 0, none⟩) 1 1) [x] := by
  refine ⟨_, _, rfl, Nat.le_refl _, fun h => (by cases h), fun _ => ⟨_, _, rfl, ?_, fun i hi => ?_⟩⟩
  · show _ < (w.heap.push _).size
    simp
  · obtain rfl : i = 0 := by simpa using hi
    show (match (w.heap.push (Obj.cells #[Value.string x] 9))[w.heap.size]? with | some (Obj.cells c _ _) => c[0 + 0]? | _ => none) = _
    rw [Array.getElem?_push_size]
    rfl
theorem flOk (a : Nat) (k : Int) (data : List Int) (ha : a < 20) (hd : data.length ≤ 1000) (hb : isB8 data) (hk : -9223372036854775808 ≤ k ∧ k ≤ 9223372036854775807) : ∀ j, j ≤ a → (fl a k data j).OkN (1 + j)
  | 0, _ => by
    have h1 := (okN_empty 10000 (by decide)).create tA
    rw [(fl_start a k data).1] at h1
    have h2 := h1.arm (1 + (a : Int)) k (by omega) hk
    rw [(fl_start a k data).2] at h2
    exact h2
  | j + 1, h => by
    have h1 := (flOk a k data ha hd hb hk j (by omega)).append tA hb
    rw [fl_step (by omega) ha hd] at h1
    exact h1
set_option maxRecDepth 10000 in
set_option maxHeartbeats 4000000 in
theorem diskFails_at (n k : Int) (v : Value) (data : List Int) (w : World) (hn : 0 ≤ n ∧ n ≤ 18446744073709551615) (hk : -9223372036854775808 ≤ k ∧ k ≤ 9223372036854775807) (hv : Has w v data) (hb : isB8 data) :
    Calls Try.prog 7 #[.int .u64 n, .int .i64 k, v] w fun e w' => e = .returned (.bool true) ∧ Below w.heap.size w w' := by
  have hA := short8 tA (by decide)
  have hB := short8 tB (by decide)
  obtain ⟨a, han⟩ : ∃ a : Nat, n % 20 = (a : Int) := ⟨(n % 20).toNat, by omega⟩
  have ha : a < 20 := by omega
  have h0 := Disk8.new 10000 w w (by decide) (Below.refl _ _)
  obtain ⟨p, c, rfl, hc1, -, -⟩ := id hv
  by_cases hd : 1000 < data.length
  · have hd' : (1000 : Int) < data.length := by omega
    have hv' := hv
    clear hv
    go_enter Try.func7, Try.ntmps7
    go_wp2_with fail
    refine h0.mono ?_
    rintro e w1 ⟨rfl, hD, -⟩
    go_wp2_with fail
    refine (lives8 w1).mono ?_
    rintro e w2 ⟨rfl, hb2⟩
    go_wp2
    go_ret
    exact ⟨rfl, (hD.below hb2).bel⟩
  have hd' : (data.length : Int) ≤ 1000 := by omega
  have hOk := flOk a k data ha (by omega) hb hk
  go_enter Try.func7, Try.ntmps7
  go_wp2_with fail
  refine h0.mono ?_
  clear h0
  rintro e w1 ⟨rfl, hD, -⟩
  generalize w.heap.size + 1 = d at *
  generalize (fun k => w.heap.size ≤ k ∧ k < w1.heap.size) = S at *
  have hc : Calls Try.prog 17 #[.pointer (some ⟨d, 0, none⟩), .string tA] w1 fun e w' => e = .returned (.int .i64 0) ∧ (∃ S, Disk8 w w' d S ⟨10000, [(tA, [])], [], false, 1, 0, 0⟩) := (hD.create (okN_empty 10000 (by decide)) (by decide) hA).mono fun e w' ⟨h1, h2, _⟩ => ⟨h1, _, h2⟩
  clear hD
  go_wp2_with fail
  refine hc.mono ?_
  clear hc S
  rintro e w2 ⟨rfl, S, hD⟩
  have hc : Calls Try.prog 28 #[.pointer (some ⟨d, 0, none⟩), .int .i64 (1 + (a : Int)), .int .i64 k] w2 fun e w' => e = .returned (.int .i64 0) ∧ (∃ S, Disk8 w w' d S (fl a k data 0)) := (hD.arm (1 + (a : Int)) k (by omega)).mono fun e w' ⟨h1, h2, _⟩ => by
    rw [(fl_start a k data).2] at h1 h2
    exact ⟨h1, _, h2⟩
  clear hD
  go_wp2_with fail
  refine hc.mono ?_
  clear hc S
  rintro e w3 ⟨rfl, S, hD⟩
  have hD3 : ∃ S, Disk8 w w3 d S (fl a k data 0) := ⟨_, hD⟩
  clear hD
  go_wp2
  go_loopw [9] (fun i wr => ∃ j : Nat, j ≤ a ∧ i = .int .i64 (1 + (j : Int)) ∧ ∃ S, Disk8 w wr d S (fl a k data j)) (fun i _ => a + 1 - (intOf i).toNat)
  case atStart => exact ⟨0, Nat.zero_le _, rfl, hD3⟩
  case round =>
    clear hD3
    obtain ⟨j, hj, rfl, S, hD⟩ := hrel
    by_cases hlt : j < a
    · have hx := hD.old hv
      have hc : Calls Try.prog 20 #[.pointer (some ⟨d, 0, none⟩), .string tA, .slice p data.length c] wr fun e w' => e = .returned (.int .i64 0) ∧ (∃ S, Disk8 w w' d S (fl a k data (j + 1))) := (hD.append (hOk j hj) (by omega) hA hx (by omega)).mono fun e w' ⟨h1, h2, _⟩ => by
        rw [fl_step hlt ha (by omega)] at h1 h2
        exact ⟨h1, _, h2⟩
      clear hx hD hOk
      have hlt' : (1 + (j : Int)) < 1 + (a : Int) := by omega
      go_wp2_with fail
      refine hc.mono ?_
      clear hc S
      rintro e w4 ⟨rfl, hD⟩
      go_wp2
      go_roundw
      case rel => exact ⟨j + 1, by omega, by go_num, hD⟩
      case measure => simp [intOf]; omega
    · obtain rfl : j = a := by omega
      have hO := hOk j (Nat.le_refl _)
      clear hOk
      have hc : Calls Try.prog 18 #[.pointer (some ⟨d, 0, none⟩)] wr fun e w' => e = .returned (.int .i64 9) ∧ (∃ S, Disk8 w w' d S (flF j k data)) := (hD.sync hO (by omega)).mono fun e w' ⟨h1, h2, _⟩ => by
        rw [fl_fails] at h1 h2
        exact ⟨h1, _, h2⟩
      have hO1 : (flF j k data).OkN (2 + j) := by
        have := hO.syncs
        rw [fl_fails] at this
        exact this.mono (by omega)
      have hO2 := hO1.start
      have hO3 := hO2.syncs
      clear hD hO
      obtain ⟨g1, g2, g3, g4, g5, g6⟩ := flF_says j k data
      go_wp2_with fail
      refine hc.mono ?_
      clear hc S
      rintro e w4 ⟨rfl, S, hD⟩
      have hc := on_any hD.at8
      rw [show (flF j k data).off = true from rfl] at hc
      go_wp2_with fail
      refine same_mono hc ?_
      clear hc
      have hc : Calls Try.prog 18 #[.pointer (some ⟨d, 0, none⟩)] w4 fun e w' => e = .returned (.int .i64 9) ∧ (∃ S, Disk8 w w' d S (flF j k data)) := (hD.sync hO1 (by omega)).mono fun e w' ⟨h1, h2, _⟩ => by
        rw [g1] at h1 h2
        exact ⟨h1, _, h2⟩
      clear hD
      go_wp2_with fail
      refine hc.mono ?_
      clear hc S
      rintro e w5 ⟨rfl, S, hD⟩
      have hc : Calls Try.prog 17 #[.pointer (some ⟨d, 0, none⟩), .string tB] w5 fun e w' => e = .returned (.int .i64 9) ∧ (∃ S, Disk8 w w' d S (flF j k data)) := (hD.create hO1 (by omega) hB).mono fun e w' ⟨h1, h2, _⟩ => by
        rw [g2] at h1 h2
        exact ⟨h1, _, h2⟩
      clear hD
      go_wp2_with fail
      refine hc.mono ?_
      clear hc S
      rintro e w6 ⟨rfl, S, hD⟩
      have hc := ops_any hD.at8
      rw [show (((flF j k data).ops : Nat) : Int) = 1 + (j : Int) + 1 by show ((2 + j : Nat) : Int) = _; omega] at hc
      go_wp2_with fail
      refine same_mono hc ?_
      clear hc
      have hc : Calls Try.prog 22 #[.pointer (some ⟨d, 0, none⟩)] w6 fun e w' => (∃ v, e = .returned v) ∧ (∃ S, Disk8 w w' d S (flF j k data).start) := hD.start.mono fun e w' ⟨h1, h2, _⟩ => ⟨h1, _, h2⟩
      clear hD
      go_wp2_with fail
      refine hc.mono ?_
      clear hc S
      rintro e w7 ⟨⟨u, rfl⟩, S, hD⟩
      have hc := read_any hD.at8 hO2.inv hA
      rw [g3] at hc
      generalize hrd : (flF j k data).start.readB tA = rd at *
      go_wp2_with fail
      refine hc.mono ?_
      clear hc
      rintro e w8 ⟨⟨va, rfl, oa⟩, hb8⟩
      replace hD := hD.below hb8
      obtain ⟨pa, ca, rfl⟩ := oa.shape
      clear oa hb8
      clear g1 g2 g3 hO1 hv hb hA hB hrd
      generalize rd.length = r at *
      generalize (flF j k data).start = M at *
      obtain ⟨m, hm⟩ : ∃ m : Nat, m = j * data.length := ⟨_, rfl⟩
      have hm1 : m ≤ 20000 := by
        have : j * data.length ≤ 19 * 1000 := Nat.mul_le_mul (by omega) (by omega)
        omega
      have hm' : wrap64 ((1 + (j : Int) - 1) * (data.length : Int)) = (m : Int) := by
        rw [show (1 + (j : Int) - 1) * (data.length : Int) = (m : Int) by rw [hm, Int.natCast_mul, show 1 + (j : Int) - 1 = j by omega]]
        exact IntWalk.wrap64_in _ (by omega)
      rw [← hm] at g4
      clear hm
      have hw : Hid ((k < 0 ∧ r = 0) ∨ (0 ≤ k ∧ k ≤ m ∧ k = (r : Int)) ∨ ((m : Int) < k ∧ r = m)) := by
        show _ ∨ _ ∨ _
        omega
      clear g4
      have hc : Calls Try.prog 18 #[.pointer (some ⟨d, 0, none⟩)] w8 fun e w' => e = .returned (.int .i64 0) ∧ (∃ S, Disk8 w w' d S M.syncs.2) := (hD.sync hO2 (by omega)).mono fun e w' ⟨h1, h2, _⟩ => by
        rw [g5] at h1
        exact ⟨h1, _, h2⟩
      clear hD hO2 g5
      rcases hw.out with ⟨q1, q2⟩ | ⟨q1, q2, q3⟩ | ⟨q1, q2⟩
      · subst q2
        clear hw
        go_wp2_with fail
        refine hc.mono ?_
        clear hc S
        rintro e w9 ⟨rfl, S, hD⟩
        have hc := list_any hD.at8 hO3.inv
        rw [g6] at hc
        go_wp2_with fail
        refine hc.mono ?_
        clear hc
        rintro e w10 ⟨⟨vl, rfl, ol⟩, hb10⟩
        replace hD := hD.below hb10
        have ht1 := HasT8.of_owns ol
        have hal := (Below.refl w10.heap.size w10).alloc (Nat.le_refl _) (.cells #[Value.string tA] 9)
        have ht2 : HasT8 (w10.alloc (.cells #[Value.string tA] 9)) (.slice (some ⟨w10.heap.size, 0, none⟩) 1 1) [tA] := lit_text w10 tA
        have hc := texts8 _ _ _ _ _ (ht1.below hal (Nat.le_refl _)) ht2 (by decide) (by decide)
        rw [show decide ([tA] = [tA]) = true from rfl] at hc
        replace hD := hD.below hal
        clear ol hb10 ht1 ht2 hal
        go_wp2_with fail
        refine hc.mono ?_
        clear hc
        rintro e w11 ⟨rfl, hb11⟩
        replace hD := hD.below hb11
        go_wp2_with fail
        refine (lives8 w11).mono ?_
        rintro e w12 ⟨rfl, hb12⟩
        go_wp2
        go_ret
        exact ⟨rfl, (hD.below hb12).bel⟩
      · subst q3
        clear hw
        go_wp2_with fail
        refine hc.mono ?_
        clear hc S
        rintro e w9 ⟨rfl, S, hD⟩
        have hc := list_any hD.at8 hO3.inv
        rw [g6] at hc
        go_wp2_with fail
        refine hc.mono ?_
        clear hc
        rintro e w10 ⟨⟨vl, rfl, ol⟩, hb10⟩
        replace hD := hD.below hb10
        have ht1 := HasT8.of_owns ol
        have hal := (Below.refl w10.heap.size w10).alloc (Nat.le_refl _) (.cells #[Value.string tA] 9)
        have ht2 : HasT8 (w10.alloc (.cells #[Value.string tA] 9)) (.slice (some ⟨w10.heap.size, 0, none⟩) 1 1) [tA] := lit_text w10 tA
        have hc := texts8 _ _ _ _ _ (ht1.below hal (Nat.le_refl _)) ht2 (by decide) (by decide)
        rw [show decide ([tA] = [tA]) = true from rfl] at hc
        replace hD := hD.below hal
        clear ol hb10 ht1 ht2 hal
        go_wp2_with fail
        refine hc.mono ?_
        clear hc
        rintro e w11 ⟨rfl, hb11⟩
        replace hD := hD.below hb11
        go_wp2_with fail
        refine (lives8 w11).mono ?_
        rintro e w12 ⟨rfl, hb12⟩
        go_wp2
        go_ret
        exact ⟨rfl, (hD.below hb12).bel⟩
      · subst q2
        clear hw
        go_wp2_with fail
        refine hc.mono ?_
        clear hc S
        rintro e w9 ⟨rfl, S, hD⟩
        have hc := list_any hD.at8 hO3.inv
        rw [g6] at hc
        go_wp2_with fail
        refine hc.mono ?_
        clear hc
        rintro e w10 ⟨⟨vl, rfl, ol⟩, hb10⟩
        replace hD := hD.below hb10
        have ht1 := HasT8.of_owns ol
        have hal := (Below.refl w10.heap.size w10).alloc (Nat.le_refl _) (.cells #[Value.string tA] 9)
        have ht2 : HasT8 (w10.alloc (.cells #[Value.string tA] 9)) (.slice (some ⟨w10.heap.size, 0, none⟩) 1 1) [tA] := lit_text w10 tA
        have hc := texts8 _ _ _ _ _ (ht1.below hal (Nat.le_refl _)) ht2 (by decide) (by decide)
        rw [show decide ([tA] = [tA]) = true from rfl] at hc
        replace hD := hD.below hal
        clear ol hb10 ht1 ht2 hal
        go_wp2_with fail
        refine hc.mono ?_
        clear hc
        rintro e w11 ⟨rfl, hb11⟩
        replace hD := hD.below hb11
        go_wp2_with fail
        refine (lives8 w11).mono ?_
        rintro e w12 ⟨rfl, hb12⟩
        go_wp2
        go_ret
        exact ⟨rfl, (hD.below hb12).bel⟩
theorem diskFails_any (n k : Int) (p : Option Addr) (len cap : Nat) (data : List Int) (_ : data.length = len) (w : World) (hn : 0 ≤ n ∧ n ≤ 18446744073709551615) (hk : -9223372036854775808 ≤ k ∧ k ≤ 9223372036854775807) (hv : Has w (.slice p len cap) data) (hb : isB8 data) (_ : len ≤ 140737488351232) :
    Calls Try.prog 7 #[.int .u64 n, .int .i64 k, .slice p len cap] w fun e w' => e = .returned (.bool true) ∧ Below w.heap.size w w' := diskFails_at n k _ data w hn hk hv hb
end Go.Proofs.Ytefgnehahedckaa
