import Derived.Test.YtkjnifipepiahaaDoorSwIgiTo
import Derived.Test.YtkjnifipepiahaaDoorSwVTo
import Derived.Test.YtkjnifipepiahaaDoorSwUbTo
/-
  The document's examples on maps of ints: corbellaw05.lives.
-/
namespace Go.Proofs.YtkjnifipepiahaaDoor
open Go.RowKit Go.Shelf

def valB : Value → Bool
  | .int .i64 _ => true
  | _ => false
theorem valB_is {v : Value} (h : valB v = true) : IsV_i v := by
  unfold valB at h
  split at h
  · exact ⟨_, rfl⟩
  · cases h
/-- What Put and Delete ask of a map of ints, reckoned. -/
def saneB (M : SM) : Bool :=
  isGood M.ws.length && decide (M.ss.length = 8 * M.ws.length) && (List.range M.ws.length).all (fun g => decide (M.w g < 18446744073709551616)) && decide (M.n ≤ 1099511627776) && decide (M.t ≤ 1099511627776) &&
  (List.range M.ss.length).all (fun p => decide ((M.s p).1.size < 140737488355328) && valB (M.s p).2) &&
  (List.range M.ws.length).all (fun g => (List.range 8).all fun i => (!decide (byteN (M.w g) i = 254) || decide (1 ≤ M.t)) && (!decide (byteN (M.w g) i < 128) || decide (1 ≤ M.n))) &&
  (!decide (7 * M.ws.length ≤ M.n + M.t) || isGood M.size')
theorem saneB_is {M : SM} (h : saneB M = true) : M.Sane IsV_i := by
  unfold saneB at h
  simp only [Bool.and_eq_true, List.all_eq_true, decide_eq_true_eq, List.mem_range, Bool.or_eq_true, Bool.not_eq_true', decide_eq_false_iff_not] at h
  obtain ⟨⟨⟨⟨⟨⟨⟨h1, h2⟩, h3⟩, h4⟩, h5⟩, h6⟩, h7⟩, h8⟩ := h
  refine ⟨⟨h1, h2, h3, ⟨h4, h5⟩, fun p hp => (h6 p hp).1⟩, fun p hp => valB_is (h6 p hp).2, fun g i hg hi he => ?_, fun g i hg hi he => ?_, fun hr _ => ?_⟩
  · rcases (h7 g hg i hi).1 with h | h
    · exact absurd he h
    · exact h
  · rcases (h7 g hg i hi).2 with h | h
    · exact absurd he h
    · exact h
  · rcases h8 with h | h
    · exact absurd hr h
    · exact h

def liveK (i : Nat) : ByteArray := ⟨#[UInt8.ofNat (97 + i)]⟩
def liveM : Nat → SM
  | 0 => SM.empty 0 0 (.int .i64 0) 1
  | i + 1 => ((liveM i).put (liveK i) (.int .i64 (i : Nat)) (.int .i64 0)).2.2
def getB : Value × Bool → Bool
  | (.int .i64 9, true) => true
  | _ => false
theorem live_puts : ∀ i : Fin 8, saneB (liveM i.val) = true ∧ ((liveM i.val).put (liveK i.val) (.int .i64 (i.val : Nat)) (.int .i64 0)).1 = false ∧ ((liveM i.val).put (liveK i.val) (.int .i64 (i.val : Nat)) (.int .i64 0)).2.1 = 0 := by decide +kernel
theorem live_seven : (liveM 7).ws.length = 1 := by decide +kernel
theorem live_eight : saneB (liveM 8) = true ∧ ((liveM 8).put ⟨#[99]⟩ (.int .i64 9) (.int .i64 0)).1 = true ∧ ((liveM 8).put ⟨#[99]⟩ (.int .i64 9) (.int .i64 0)).2.1 = 0 := by decide +kernel
theorem live_nine : saneB ((liveM 8).put ⟨#[99]⟩ (.int .i64 9) (.int .i64 0)).2.2 = true ∧ getB (((liveM 8).put ⟨#[99]⟩ (.int .i64 9) (.int .i64 0)).2.2.get ⟨#[99]⟩ (.int .i64 0)) = true ∧
    ((liveM 8).put ⟨#[99]⟩ (.int .i64 9) (.int .i64 0)).2.2.n = 8 ∧ ((liveM 8).put ⟨#[99]⟩ (.int .i64 9) (.int .i64 0)).2.2.ws.length = 2 := by decide +kernel
end Go.Proofs.YtkjnifipepiahaaDoor

/-
  The walk of corbellaw05.lives.
-/
namespace Go.Proofs.YtkjnifipepiahaaDoor
open Go.RowKit Go.Shelf

theorem live_conv (i : Nat) (hi : i < 8) : strOfNums [((97 + i : Nat) : Int)] = liveK i := (by decide +kernel : ∀ i : Fin 8, strOfNums [((97 + i.val : Nat) : Int)] = liveK i.val) ⟨i, hi⟩
theorem liveK_size (i : Nat) : (liveK i).size < 140737488355328 := by show 1 < _; omega
theorem getB_is {r : Value × Bool} (h : getB r = true) : r = (.int .i64 9, true) := by
  unfold getB at h
  split at h
  · rfl
  · cases h

set_option maxRecDepth 10000 in
set_option maxHeartbeats 4000000 in
theorem lives_any (w : World) (hT : Tab w) : Calls Tryd.prog 12 #[] w fun e w' => e = .returned (.bool true) ∧ Below w.heap.size w w' := by
  have hw0 := hT.1
  have hnew := new_any_i 0 0 0 w (by omega) (by omega) (by decide)
  rw [show (needI 0).toNat = 1 by decide] at hnew
  go_enter Tryd.func12, Tryd.ntmps12
  go_wp2_with fail
  refine hnew.mono ?_
  rintro e w1 ⟨b, bw0, bs0, rfl, hl0, g1, g2, g3, hb1⟩
  clear hnew
  go_wp2
  go_loopw [2] (fun t wr => ∃ (i bw bs : Nat), i ≤ 8 ∧ t = .int .i64 (i : Nat) ∧ Lies 60 93 wr b bw bs (liveM i) ∧ w.heap.size ≤ bw ∧ w.heap.size ≤ bs ∧ Below w.heap.size w wr) (fun t _ => 8 - (intOf t).toNat)
  case atStart => exact ⟨0, bw0, bs0, by omega, rfl, hl0, g2, g3, hb1⟩
  case round =>
    obtain ⟨i, bw, bs, hi, rfl, hl, q2, q3, hb⟩ := hrel
    have hTr := hT.below hb hw0
    by_cases hlt : i < 8
    · obtain ⟨hsane, hp1, hp2⟩ := live_puts ⟨i, hlt⟩
      dsimp only at hsane hp1 hp2
      have hcv := live_conv i hlt
      have hlit := Has.lit wr [((97 + i : Nat) : Int)] 5
      have hconv := hlit.conv (P := Tryd.prog) 73 5 9 Tryd.underlying73 Tryd.underlying5 Tryd.underlying9
      rw [hcv] at hconv
      simp only [List.map_cons, List.map_nil, List.length_cons, List.length_nil, Nat.zero_add] at hconv
      rw [show ((97 + i : Nat) : Int) = 97 + (i : Int) by omega] at hconv
      have hb2 : Below wr.heap.size wr (wr.alloc (.cells #[.int .u8 (97 + (i : Int))] 5)) := (Below.refl _ _).alloc (Nat.le_refl _) _
      have hput := put_any_i b bw bs (liveM i) (liveK i) (i : Nat) (wr.alloc (.cells #[.int .u8 (97 + (i : Int))] 5)) (hTr.below hb2 hTr.1) (hl.below hb2 (Nat.le_refl _)) (saneB_is hsane) (liveK_size i)
      rw [hp1, hp2] at hput
      have hlm : ((liveM i).put (liveK i) (.int .i64 (i : Nat)) (.int .i64 0)).2.2 = liveM (i + 1) := rfl
      rw [hlm] at hput
      clear hp1 hp2 hlm hcv hlit
      have hz2 : (wr.alloc (.cells #[.int .u8 (97 + (i : Int))] 5)).heap.size = wr.heap.size + 1 := by simp
      have hzr := hb.size
      go_wp2_with fail
      refine hput.mono ?_
      rintro e w2 ⟨rfl, bw', bs', hl2, hbut, h1, h2⟩
      have hB2 : Below w.heap.size w w2 := (hb.trans (hb2.mono hzr)).trans (hbut.below (B := w.heap.size) (by simp; omega) (by omega))
      have g2' : w.heap.size ≤ bw' := by omega
      have g3' : w.heap.size ≤ bs' := by omega
      clear hput hconv hb2 hl hbut h1 h2
      by_cases h6 : i = 6
      · subst h6
        have hseven := live_seven
        have hf7 : (liveM 7).Fit := (saneB_is (live_puts ⟨7, by decide⟩).1).fit
        have hctl := controls_any_i b bw' bs' (liveM (6 + 1)) w2 hl2 hf7
        rw [show (liveM (6 + 1)).ws.length = 1 from hseven] at hctl
        clear hseven
        go_wp2_with fail
        refine hctl.mono ?_
        rintro e w3 ⟨gg, cap, rfl, hg, ho, hb3⟩
        have hl3 := hl2.below hb3 (Nat.le_refl _)
        have hB3 := hB2.trans (hb3.mono hB2.size)
        clear hctl hl2 ho hB2 hb3
        go_wp2
        go_roundw
        case rel => exact ⟨7, bw', bs', by omega, rfl, hl3, g2', g3', hB3⟩
        case measure => simp only [intOf]; omega
      · have h6' : ((i : Int) == 6) = false := by rw [beq_eq_false_iff_ne]; omega
        go_wp2
        go_roundw
        case rel => exact ⟨i + 1, bw', bs', by omega, by simp, hl2, g2', g3', hB2⟩
        case measure => simp only [intOf]; omega
    · obtain rfl : i = 8 := by omega
      obtain ⟨hs8, hp1, hp2⟩ := live_eight
      obtain ⟨hs9, hg9, hn9, hw9⟩ := live_nine
      have hput := put_any_i b bw bs (liveM 8) ⟨#[99]⟩ 9 wr hTr hl (saneB_is hs8) (by show 1 < _; omega)
      rw [hp1, hp2] at hput
      generalize ((liveM 8).put ⟨#[99]⟩ (.int .i64 9) (.int .i64 0)).2.2 = M9 at *
      have hS9 := saneB_is hs9
      have hG := getB_is hg9
      clear hs8 hp1 hp2 hs9 hg9
      go_wp2_with fail
      refine hput.mono ?_
      rintro e w2 ⟨rfl, bw', bs', hl2, hbut, h1, h2⟩
      have hzr := hb.size
      have hB2 : Below w.heap.size w w2 := hb.trans (hbut.below (B := w.heap.size) (by simp; omega) (by omega))
      have hT2 := hT.below hB2 hw0
      have hget := get_map_i b bw' bs' M9 ⟨#[99]⟩ w2 hT2 hl2 hS9.fit hS9.typed (by show 1 < _; omega)
      rw [hG] at hget
      clear hput hl hbut
      go_wp2_with fail
      refine hget.mono ?_
      rintro e w3 ⟨rfl, hb3⟩
      have hl3 := hl2.below hb3 (Nat.le_refl _)
      have hB3 := hB2.trans (hb3.mono hB2.size)
      have hlen := len_any_i b bw' bs' M9 w3 hl3 hS9.fit
      have hctl := controls_any_i b bw' bs' M9 w3 hl3 hS9.fit
      rw [hn9] at hlen
      rw [hw9] at hctl
      clear hget hl2 hB2 hb3 hn9 hw9
      go_wp2_with fail
      refine same_mono hlen ?_
      go_wp2_with fail
      refine hctl.mono ?_
      rintro e w4 ⟨gg, cap, rfl, hg, ho, hb4⟩
      clear hlen hctl
      go_wp2
      go_ret
      exact ⟨rfl, hB3.trans (hb4.mono hB3.size)⟩
end Go.Proofs.YtkjnifipepiahaaDoor

/-
  The walk of corbellaw05.SwissGrows.
-/
namespace Go.Proofs.YtkjnifipepiahaaDoor
open Go.RowKit Go.Shelf

theorem isV_bool (x : Bool) : IsV_b (.bool x) := ⟨x, rfl⟩

set_option maxRecDepth 10000 in
set_option maxHeartbeats 8000000 in
theorem swissGrows_any (k0 k1 : Int) (p : Option Addr) (n c : Nat) (xs : List ByteArray) (hlen : xs.length = n) (w : World) (hT : Tab w) (_hk0 : 0 ≤ k0 ∧ k0 ≤ 18446744073709551615) (_hk1 : 0 ≤ k1 ∧ k1 ≤ 18446744073709551615) (hX : HasT w (.slice p n c) xs) (hn : (n : Int) ≤ 9223372036854775807) :
    Calls Tryd.prog 8 #[.agg #[.int .u64 k0, .int .u64 k1], .slice p n c] w fun e w' => e = .returned (.bool true) ∧ Below w.heap.size w w' := by
  have hw0 := hT.1
  have hlen' : Hid (xs.length = n) := hlen
  clear hlen
  have hB0 : Below w.heap.size w (w.alloc (.cells #[.int .u64 k0, .int .u64 k1] 24)) := (Below.refl _ _).alloc (Nat.le_refl _) _
  have hz0 : (w.alloc (.cells #[.int .u64 k0, .int .u64 k1] 24)).heap.size = w.heap.size + 1 := by simp
  have hnew := new_any_b k0 k1 0 (w.alloc (.cells #[.int .u64 k0, .int .u64 k1] 24)) (by omega) (by omega) (by decide)
  rw [show (needI 0).toNat = 1 by decide, hz0] at hnew
  go_enter Tryd.func8, Tryd.ntmps8
  go_wp2_with fail
  refine hnew.mono ?_
  rintro e w1 ⟨b, bw0, bs0, rfl, hl0, g1, g2, g3, hb1⟩
  have hB1 : Below w.heap.size w w1 := hB0.trans (hb1.mono (by omega))
  clear hnew hb1 hB0
  by_cases h300 : 300 < n
  · have h300' : 300 < (n : Int) := by omega
    go_wp2_with fail
    refine (lives_any w1 (hT.below hB1 hw0)).mono ?_
    rintro e w2 ⟨rfl, hb2⟩
    go_wp2
    go_ret
    exact ⟨rfl, hB1.trans (hb2.mono hB1.size)⟩
  · have h300' : ¬ 300 < (n : Int) := by omega
    obtain ⟨hinv0, hno0⟩ := inv_empty k0 k1 (.bool false) 1 (by decide) (isV_bool false)
    go_wp2
    go_loopw [29] (fun t wr => ∃ (j bw bs : Nat) (M : SM), j ≤ n ∧ t = .int .i64 (j : Nat) ∧ Lies 100 97 wr b bw bs M ∧ M.Inv IsV_b ∧ M.Tight ∧ Hid (∀ i, i < j → (xs.getD i ByteArray.empty).size ≤ 200) ∧ Hid (∀ k v, M.Has k v → k ∈ xs.take j) ∧ M.n ≤ j ∧ w.heap.size ≤ bw ∧ w.heap.size ≤ bs ∧ Below w.heap.size w wr) (fun t _ => n - (intOf t).toNat)
    case atStart => exact ⟨0, bw0, bs0, _, by omega, rfl, hl0, hinv0, ⟨rfl, .inl (by simp [SM.empty])⟩, fun i hi => absurd hi (Nat.not_lt_zero _), fun k v h => absurd h (hno0 k v), Nat.zero_le _, by omega, by omega, hB1⟩
    case round =>
      obtain ⟨j, bw, bs, M, hj, rfl, hl, hinv, htight, hsm, hsub, hnj, q2, q3, hb⟩ := hrel
      clear hinv0 hno0 hl0
      by_cases hlt : j < n
      · obtain ⟨p', c', hpv, hcc, _, hcell⟩ := hX.below (hb.mono (Nat.le_refl _)) (Nat.le_refl _)
        simp only [Value.slice.injEq] at hpv
        obtain ⟨rfl, hnn, rfl⟩ := hpv
        rw [← hnn] at hcc hcell
        clear hnn
        obtain ⟨bb, oo, rfl, hbb, hcell⟩ := hcell (by omega)
        have hcj := hcell j (by omega)
        clear hcell
        have hmem : Hid (∀ k, k = xs.getD j ByteArray.empty → xs.take j ++ [k] = xs.take (j + 1)) := fun k hk => by
          have hjx : j < xs.length := by rw [hlen'.out]; exact hlt
          rw [hk, List.take_succ_eq_append_getElem hjx]
          simp [List.getD_eq_getElem?_getD, List.getElem?_eq_getElem hjx]
        generalize hkey : xs.getD j ByteArray.empty = key at *
        have hkk : Hid (xs.take j ++ [key] = xs.take (j + 1)) := hmem.out key rfl
        have hkE : Hid (xs.getD j ByteArray.empty = key) := hkey
        clear hmem hkey
        by_cases h200 : 200 < key.size
        · have h200' : 200 < (key.size : Int) := by omega
          go_wp2_with fail
          refine (lives_any wr (hT.below hb hw0)).mono ?_
          rintro e w2 ⟨rfl, hb2⟩
          go_wp2
          go_ret
          exact ⟨rfl, hb.trans (hb2.mono hb.size)⟩
        · have h200' : ¬ 200 < (key.size : Int) := by omega
          have hput := put_any_b b bw bs M key true wr (hT.below hb hw0) hl (sane_of_inv hinv) (by omega)
          obtain ⟨i1, _, _, i4⟩ := inv_put hinv (key := key) (v := .bool true) (z := .bool false) (isV_bool true) (isV_bool false) (by omega)
          obtain ⟨i5, i6, i7, i8⟩ := i4 (by omega)
          have itight := tight_put hinv htight (key := key) (v := .bool true) (z := .bool false) (isV_bool true) (isV_bool false) (by omega) (by omega)
          have hn' : (M.put key (.bool true) (.bool false)).2.2.n ≤ j + 1 := by rw [i7]; split <;> omega
          have hsub' : Hid (∀ k v, (M.put key (.bool true) (.bool false)).2.2.Has k v → k ∈ xs.take (j + 1)) := fun k v hv => by
            rw [← hkk.out]
            rcases (i8 k v).1 hv with ⟨rfl, _⟩ | ⟨_, hv⟩
            · exact List.mem_append_right _ (List.mem_singleton.2 rfl)
            · exact List.mem_append_left _ (hsub.out k v hv)
          have hsm' : Hid (∀ i, i < j + 1 → (xs.getD i ByteArray.empty).size ≤ 200) := fun i hi => by
            by_cases e : i = j
            · rw [e, hkE.out]; omega
            · exact hsm.out i (by omega)
          clear i4 i5 i6 i7 i8 hinv htight hsub hnj hkk hsm hkE
          generalize (M.put key (.bool true) (.bool false)).2.2 = M' at *
          generalize (M.put key (.bool true) (.bool false)).2.1 = er at *
          generalize (M.put key (.bool true) (.bool false)).1 = is at *
          have hzr := hb.size
          go_wp2_with fail
          refine hput.mono ?_
          rintro e w2 ⟨rfl, bw', bs', hl2, hbut, h1, h2⟩
          have hB2 : Below w.heap.size w w2 := hb.trans (hbut.below (B := w.heap.size) (by simp; omega) (by omega))
          have g2' : w.heap.size ≤ bw' := by omega
          have g3' : w.heap.size ≤ bs' := by omega
          clear hput hbut h1 h2 hl hcj
          go_wp2_with fail
          refine same_mono (len_any_b b bw' bs' M' w2 hl2 i1.fit) ?_
          go_wp2_with fail
          refine (controls_any_b b bw' bs' M' w2 hl2 i1.fit).mono ?_
          rintro e w3 ⟨gg, cap, rfl, hg, ho, hb3⟩
          have hl3 := hl2.below hb3 (Nat.le_refl _)
          have hB3 := hB2.trans (hb3.mono hB2.size)
          have htm := tombs_any_b b bw' bs' M' w3 hl3 i1.fit
          have hload := i1.load
          obtain ⟨ht0, hgr⟩ := id itight
          rw [ht0] at htm hload
          have hr := good_range i1.fit.good
          have hi1 : ¬ 7 * (M'.ws.length : Int) < M'.n := by omega
          clear hl2 hB2 hb3 ho ht0
          by_cases hone : M'.ws.length = 1
          · have hone' : ¬ 1 < (M'.ws.length : Int) := by omega
            clear hgr
            generalize M'.ws.length = L at *
            go_wp2_with fail
            refine same_mono htm ?_
            go_wp2
            go_roundw
            case rel => exact ⟨j + 1, bw', bs', M', by omega, by simp, hl3, i1, itight, hsm', hsub', hn', g2', g3', hB3⟩
            case measure => simp only [intOf]; omega
          · have hone' : 1 < (M'.ws.length : Int) := by omega
            have hi2 : ¬ (M'.n : Int) ≤ 7 * ((M'.ws.length : Int) / 2) := by omega
            clear hgr
            go_wp2_with fail
            refine same_mono htm ?_
            go_wp2
            go_roundw
            case rel => exact ⟨j + 1, bw', bs', M', by omega, by simp, hl3, i1, itight, hsm', hsub', hn', g2', g3', hB3⟩
            case measure => simp only [intOf]; omega
      · obtain rfl : n = j := by omega
        clear hlt hj hnj htight
        have hsub0 : Hid (∀ k v, M.Has k v → k ∈ xs.drop 0) := fun k v hv => by
          have := hsub.out k v hv
          rw [List.take_of_length_le (by rw [hlen'.out]; exact Nat.le_refl _)] at this
          exact this
        clear hsub
        have hctl := controls_any_b b bw bs M wr hl hinv.fit
        have hr0 := good_range hinv.fit.good
        obtain ⟨L, hL⟩ : ∃ L, M.ws.length = L := ⟨_, rfl⟩
        have hL0 : Hid (M.ws.length = L) := hL
        rw [hL] at hctl hr0
        clear hL
        go_wp2_with fail
        refine hctl.mono ?_
        rintro e w3 ⟨gg, cap, rfl, hg, ho, hb3⟩
        have hl3 := hl.below hb3 (Nat.le_refl _)
        have hB3 := hb.trans (hb3.mono hb.size)
        clear hctl hl ho hb3 hb hg
        go_wp2
        go_loopw [71] (fun t wr => ∃ (j bw bs : Nat) (M : SM), j ≤ n ∧ t = .int .i64 (j : Nat) ∧ Lies 100 97 wr b bw bs M ∧ M.Inv IsV_b ∧ Hid (M.ws.length = L) ∧ Hid (∀ k v, M.Has k v → k ∈ xs.drop j) ∧ w.heap.size ≤ bw ∧ w.heap.size ≤ bs ∧ Below w.heap.size w wr) (fun t _ => n - (intOf t).toNat)
        case atStart => exact ⟨0, bw, bs, M, by omega, rfl, hl3, hinv, hL0, hsub0, q2, q3, hB3⟩
        case round =>
          clear hl3 hinv hL0 hsub0 q2 q3 hB3
          obtain ⟨j, bw, bs, M, hj, rfl, hl, hinv, hL, hsub, q2, q3, hb⟩ := hrel
          have hTr := hT.below hb hw0
          by_cases hlt : j < n
          · obtain ⟨p', c', hpv, hcc, _, hcell⟩ := hX.below (hb.mono (Nat.le_refl _)) (Nat.le_refl _)
            simp only [Value.slice.injEq] at hpv
            obtain ⟨rfl, hnn, rfl⟩ := hpv
            rw [← hnn] at hcc hcell
            clear hnn
            obtain ⟨bb, oo, rfl, hbb, hcell⟩ := hcell (by omega)
            have hcj := hcell j (by omega)
            clear hcell
            have hjx : j < xs.length := by rw [hlen'.out]; exact hlt
            have hdrop : Hid (xs.drop j = xs.getD j ByteArray.empty :: xs.drop (j + 1)) := by
              show _ = _
              rw [List.drop_eq_getElem_cons hjx]
              simp [List.getD_eq_getElem?_getD, List.getElem?_eq_getElem hjx]
            have hksz : (xs.getD j ByteArray.empty).size < 140737488355328 := Nat.lt_of_le_of_lt (hsm.out j hlt) (by decide)
            clear hjx
            generalize xs.getD j ByteArray.empty = key at *
            have hdel := delete_any_b b bw bs M key wr hTr hl (sane_of_inv hinv) hksz
            obtain ⟨i1, _, _, i4, i5, i6, i7⟩ := inv_del hinv (key := key) (z := .bool false) (isV_bool false)
            have hsub' : Hid (∀ k v, (M.del key (.bool false)).2.Has k v → k ∈ xs.drop (j + 1)) := fun k v hv => by
              obtain ⟨hne, hv⟩ := (i7 k v).1 hv
              have := hsub.out k v hv
              rw [hdrop.out] at this
              rcases List.mem_cons.1 this with e | e
              · exact absurd e hne
              · exact e
            have hL' : Hid ((M.del key (.bool false)).2.ws.length = L) := i4.trans hL.out
            clear i4 i5 i6 i7 hinv hL hsub hdrop
            generalize (M.del key (.bool false)).2 = M' at *
            generalize (M.del key (.bool false)).1 = is at *
            have hzr := hb.size
            go_wp2_with fail
            refine hdel.mono ?_
            rintro e w2 ⟨rfl, hl2, hbut⟩
            have hB2 : Below w.heap.size w w2 := hb.trans (hbut.below (B := w.heap.size) (by simp; omega) (by omega))
            clear hdel hbut hl hcj
            go_wp2
            go_roundw
            case rel => exact ⟨j + 1, bw, bs, M', by omega, by simp, hl2, i1, hL', hsub', q2, q3, hB2⟩
            case measure => simp only [intOf]; omega
          · obtain rfl : n = j := by omega
            have hno : ∀ k v, ¬ M.Has k v := fun k v hv => by
              have := hsub.out k v hv
              rw [List.drop_of_length_le (by rw [hlen'.out]; exact Nat.le_refl _)] at this
              cases this
            obtain ⟨hfull, hn0⟩ := none_full hinv hno
            have hlen0 := len_any_b b bw bs M wr hl hinv.fit
            rw [hn0] at hlen0
            have hctl := controls_any_b b bw bs M wr hl hinv.fit
            rw [hL.out] at hctl
            clear hsub hno
            go_wp2_with fail
            refine same_mono hlen0 ?_
            go_wp2_with fail
            refine hctl.mono ?_
            rintro e w5 ⟨gg', cap', rfl, hg, ho, hb5⟩
            have hl5 := hl.below hb5 (Nat.le_refl _)
            have hB5 := hb.trans (hb5.mono hb.size)
            have hkeys := keys_empty_b b bw bs M w5 (hT.below hB5 hw0) hl5 hinv.fit hn0 hfull
            clear hlen0 hctl ho hb5 hl hfull hn0 hg
            go_wp2_with fail
            refine hkeys.mono ?_
            rintro e w6 ⟨g6, rfl, hb6⟩
            have hB6 := hB5.trans (hb6.mono hB5.size)
            clear hkeys hb6 hB5
            go_wp2_with fail
            refine (lives_any w6 (hT.below hB6 hw0)).mono ?_
            rintro e w7 ⟨rfl, hb7⟩
            go_wp2
            go_ret
            exact ⟨rfl, hB6.trans (hb7.mono hB6.size)⟩
end Go.Proofs.YtkjnifipepiahaaDoor
