import Derived.Test.YtkjnifipepiahaaDoorSwJiTo
/-
  Contract: Map[int].Get.
-/
namespace Go.Proofs.YtkjnifipepiahaaDoor
open Go.RowKit Go.Shelf

set_option maxHeartbeats 1000000 in
theorem get_map_i (b bw bs : Nat) (M : SM) (key : ByteArray) (w : World) (hT : Tab w) (h : Lies 60 93 w b bw bs M) (hF : M.Fit) (hV : M.Typed IsV_i) (hk : key.size < 140737488355328) :
    Calls Tryd.prog 32 #[.pointer (some ⟨b, 0, none⟩), .string key] w fun e w' => e = .returned (.tuple #[(M.get key (.int .i64 0)).1, .bool (M.get key (.int .i64 0)).2]) ∧ Below w.heap.size w w' := by
  have hfind := find_any_i b bw bs M key w hT h hF hk
  unfold SM.get
  cases hfd : M.find key with
  | some p =>
    obtain ⟨hp1, _, _, _⟩ := find_some hF hfd
    obtain ⟨x, hx⟩ := hV p hp1
    rw [hfd] at hfind
    simp only
    rw [hx]
    clear hfd
    go_enter Tryd.func32, Tryd.ntmps32
    go_wp2_with fail
    refine hfind.mono ?_
    rintro e w1 ⟨rfl, hb⟩
    have hl := h.below hb (Nat.le_refl _)
    obtain ⟨dw, ds, _, _, _, k3, _, _, _, hds⟩ := hl.cells
    have kv := hl.val p hp1
    rw [hx] at kv
    have hp2 : (p : Int) < M.ss.length := by omega
    have hp3 : (p : Int) ≠ -1 := by omega
    clear hx hfind
    go_wp2
    go_ret2
    exact ⟨rfl, hb⟩
  | none =>
    rw [hfd] at hfind
    simp only
    clear hfd
    go_enter Tryd.func32, Tryd.ntmps32
    go_wp2_with fail
    refine hfind.mono ?_
    rintro e w1 ⟨rfl, hb⟩
    clear hfind
    go_wp2
    go_ret2
    exact ⟨rfl, hb⟩
end Go.Proofs.YtkjnifipepiahaaDoor

/-
  The document's examples on maps of ints: corbellaw05.lives.
-/
namespace Go.Proofs.YtkjnifipepiahaaDoor
open Go.RowKit Go.Shelf

def valB : Value → Bool
  | .int .i64 _ => true
  | _ => false
theorem valB_is {v : Value} (h : valB v = true) : IsV_i v := by
  unfold valB at h
  split at h
  · exact ⟨_, rfl⟩
  · cases h
/-- What Put and Delete ask of a map of ints, reckoned. -/
def saneB (M : SM) : Bool :=
  isGood M.ws.length && decide (M.ss.length = 8 * M.ws.length) && (List.range M.ws.length).all (fun g => decide (M.w g < 18446744073709551616)) && decide (M.n ≤ 1099511627776) && decide (M.t ≤ 1099511627776) &&
  (List.range M.ss.length).all (fun p => decide ((M.s p).1.size < 140737488355328) && valB (M.s p).2) &&
  (List.range M.ws.length).all (fun g => (List.range 8).all fun i => (!decide (byteN (M.w g) i = 254) || decide (1 ≤ M.t)) && (!decide (byteN (M.w g) i < 128) || decide (1 ≤ M.n))) &&
  (!decide (7 * M.ws.length ≤ M.n + M.t) || isGood M.size')
theorem saneB_is {M : SM} (h : saneB M = true) : M.Sane IsV_i := by
  unfold saneB at h
  simp only [Bool.and_eq_true, List.all_eq_true, decide_eq_true_eq, List.mem_range, Bool.or_eq_true, Bool.not_eq_true', decide_eq_false_iff_not] at h
  obtain ⟨⟨⟨⟨⟨⟨⟨h1, h2⟩, h3⟩, h4⟩, h5⟩, h6⟩, h7⟩, h8⟩ := h
  refine ⟨⟨h1, h2, h3, ⟨h4, h5⟩, fun p hp => (h6 p hp).1⟩, fun p hp => valB_is (h6 p hp).2, fun g i hg hi he => ?_, fun g i hg hi he => ?_, fun hr _ => ?_⟩
  · rcases (h7 g hg i hi).1 with h | h
    · exact absurd he h
    · exact h
  · rcases (h7 g hg i hi).2 with h | h
    · exact absurd he h
    · exact h
  · rcases h8 with h | h
    · exact absurd hr h
    · exact h

def liveK (i : Nat) : ByteArray := ⟨#[UInt8.ofNat (97 + i)]⟩
def liveM : Nat → SM
  | 0 => SM.empty 0 0 (.int .i64 0) 1
  | i + 1 => ((liveM i).put (liveK i) (.int .i64 (i : Nat)) (.int .i64 0)).2.2
def getB : Value × Bool → Bool
  | (.int .i64 9, true) => true
  | _ => false
theorem live_puts : ∀ i : Fin 8, saneB (liveM i.val) = true ∧ ((liveM i.val).put (liveK i.val) (.int .i64 (i.val : Nat)) (.int .i64 0)).1 = false ∧ ((liveM i.val).put (liveK i.val) (.int .i64 (i.val : Nat)) (.int .i64 0)).2.1 = 0 := by decide +kernel
theorem live_seven : (liveM 7).ws.length = 1 := by decide +kernel
theorem live_eight : saneB (liveM 8) = true ∧ ((liveM 8).put ⟨#[99]⟩ (.int .i64 9) (.int .i64 0)).1 = true ∧ ((liveM 8).put ⟨#[99]⟩ (.int .i64 9) (.int .i64 0)).2.1 = 0 := by decide +kernel
theorem live_nine : saneB ((liveM 8).put ⟨#[99]⟩ (.int .i64 9) (.int .i64 0)).2.2 = true ∧ getB (((liveM 8).put ⟨#[99]⟩ (.int .i64 9) (.int .i64 0)).2.2.get ⟨#[99]⟩ (.int .i64 0)) = true ∧
    ((liveM 8).put ⟨#[99]⟩ (.int .i64 9) (.int .i64 0)).2.2.n = 8 ∧ ((liveM 8).put ⟨#[99]⟩ (.int .i64 9) (.int .i64 0)).2.2.ws.length = 2 := by decide +kernel
end Go.Proofs.YtkjnifipepiahaaDoor

/-
  The walk of corbellaw05.lives.
-/
namespace Go.Proofs.YtkjnifipepiahaaDoor
open Go.RowKit Go.Shelf

theorem live_conv (i : Nat) (hi : i < 8) : strOfNums [((97 + i : Nat) : Int)] = liveK i := (by decide +kernel : ∀ i : Fin 8, strOfNums [((97 + i.val : Nat) : Int)] = liveK i.val) ⟨i, hi⟩
theorem liveK_size (i : Nat) : (liveK i).size < 140737488355328 := by show 1 < _; omega
theorem getB_is {r : Value × Bool} (h : getB r = true) : r = (.int .i64 9, true) := by
  unfold getB at h
  split at h
  · rfl
  · cases h

set_option maxRecDepth 10000 in
set_option maxHeartbeats 4000000 in
theorem lives_any (w : World) (hT : Tab w) : Calls Tryd.prog 12 #[] w fun e w' => e = .returned (.bool true) ∧ Below w.heap.size w w' := by
  have hw0 := hT.1
  have hnew := new_any_i 0 0 0 w (by omega) (by omega) (by decide)
  rw [show (needI 0).toNat = 1 by decide] at hnew
  go_enter Tryd.func12, Tryd.ntmps12
  go_wp2_with fail
  refine hnew.mono ?_
  rintro e w1 ⟨b, bw0, bs0, rfl, hl0, g1, g2, g3, hb1⟩
  clear hnew
  go_wp2
  go_loopw [2] (fun t wr => ∃ (i bw bs : Nat), i ≤ 8 ∧ t = .int .i64 (i : Nat) ∧ Lies 60 93 wr b bw bs (liveM i) ∧ w.heap.size ≤ bw ∧ w.heap.size ≤ bs ∧ Below w.heap.size w wr) (fun t _ => 8 - (intOf t).toNat)
  case atStart => exact ⟨0, bw0, bs0, by omega, rfl, hl0, g2, g3, hb1⟩
  case round =>
    obtain ⟨i, bw, bs, hi, rfl, hl, q2, q3, hb⟩ := hrel
    have hTr := hT.below hb hw0
    by_cases hlt : i < 8
    · obtain ⟨hsane, hp1, hp2⟩ := live_puts ⟨i, hlt⟩
      dsimp only at hsane hp1 hp2
      have hcv := live_conv i hlt
      have hlit := Has.lit wr [((97 + i : Nat) : Int)] 5
      have hconv := hlit.conv (P := Tryd.prog) 73 5 9 Tryd.underlying73 Tryd.underlying5 Tryd.underlying9
      rw [hcv] at hconv
      simp only [List.map_cons, List.map_nil, List.length_cons, List.length_nil, Nat.zero_add] at hconv
      rw [show ((97 + i : Nat) : Int) = 97 + (i : Int) by omega] at hconv
      have hb2 : Below wr.heap.size wr (wr.alloc (.cells #[.int .u8 (97 + (i : Int))] 5)) := (Below.refl _ _).alloc (Nat.le_refl _) _
      have hput := put_any_i b bw bs (liveM i) (liveK i) (i : Nat) (wr.alloc (.cells #[.int .u8 (97 + (i : Int))] 5)) (hTr.below hb2 hTr.1) (hl.below hb2 (Nat.le_refl _)) (saneB_is hsane) (liveK_size i)
      rw [hp1, hp2] at hput
      have hlm : ((liveM i).put (liveK i) (.int .i64 (i : Nat)) (.int .i64 0)).2.2 = liveM (i + 1) := rfl
      rw [hlm] at hput
      clear hp1 hp2 hlm hcv hlit
      have hz2 : (wr.alloc (.cells #[.int .u8 (97 + (i : Int))] 5)).heap.size = wr.heap.size + 1 := by simp
      have hzr := hb.size
      go_wp2_with fail
      refine hput.mono ?_
      rintro e w2 ⟨rfl, bw', bs', hl2, hbut, h1, h2⟩
      have hB2 : Below w.heap.size w w2 := (hb.trans (hb2.mono hzr)).trans (hbut.below (B := w.heap.size) (by simp; omega) (by omega))
      have g2' : w.heap.size ≤ bw' := by omega
      have g3' : w.heap.size ≤ bs' := by omega
      clear hput hconv hb2 hl hbut h1 h2
      by_cases h6 : i = 6
      · subst h6
        have hseven := live_seven
        have hf7 : (liveM 7).Fit := (saneB_is (live_puts ⟨7, by decide⟩).1).fit
        have hctl := controls_any_i b bw' bs' (liveM (6 + 1)) w2 hl2 hf7
        rw [show (liveM (6 + 1)).ws.length = 1 from hseven] at hctl
        clear hseven
        go_wp2_with fail
        refine hctl.mono ?_
        rintro e w3 ⟨gg, cap, rfl, hg, ho, hb3⟩
        have hl3 := hl2.below hb3 (Nat.le_refl _)
        have hB3 := hB2.trans (hb3.mono hB2.size)
        clear hctl hl2 ho hB2 hb3
        go_wp2
        go_roundw
        case rel => exact ⟨7, bw', bs', by omega, rfl, hl3, g2', g3', hB3⟩
        case measure => simp only [intOf]; omega
      · have h6' : ((i : Int) == 6) = false := by rw [beq_eq_false_iff_ne]; omega
        go_wp2
        go_roundw
        case rel => exact ⟨i + 1, bw', bs', by omega, by simp, hl2, g2', g3', hB2⟩
        case measure => simp only [intOf]; omega
    · obtain rfl : i = 8 := by omega
      obtain ⟨hs8, hp1, hp2⟩ := live_eight
      obtain ⟨hs9, hg9, hn9, hw9⟩ := live_nine
      have hput := put_any_i b bw bs (liveM 8) ⟨#[99]⟩ 9 wr hTr hl (saneB_is hs8) (by show 1 < _; omega)
      rw [hp1, hp2] at hput
      generalize ((liveM 8).put ⟨#[99]⟩ (.int .i64 9) (.int .i64 0)).2.2 = M9 at *
      have hS9 := saneB_is hs9
      have hG := getB_is hg9
      clear hs8 hp1 hp2 hs9 hg9
      go_wp2_with fail
      refine hput.mono ?_
      rintro e w2 ⟨rfl, bw', bs', hl2, hbut, h1, h2⟩
      have hzr := hb.size
      have hB2 : Below w.heap.size w w2 := hb.trans (hbut.below (B := w.heap.size) (by simp; omega) (by omega))
      have hT2 := hT.below hB2 hw0
      have hget := get_map_i b bw' bs' M9 ⟨#[99]⟩ w2 hT2 hl2 hS9.fit hS9.typed (by show 1 < _; omega)
      rw [hG] at hget
      clear hput hl hbut
      go_wp2_with fail
      refine hget.mono ?_
      rintro e w3 ⟨rfl, hb3⟩
      have hl3 := hl2.below hb3 (Nat.le_refl _)
      have hB3 := hB2.trans (hb3.mono hB2.size)
      have hlen := len_any_i b bw' bs' M9 w3 hl3 hS9.fit
      have hctl := controls_any_i b bw' bs' M9 w3 hl3 hS9.fit
      rw [hn9] at hlen
      rw [hw9] at hctl
      clear hget hl2 hB2 hb3 hn9 hw9
      go_wp2_with fail
      refine same_mono hlen ?_
      go_wp2_with fail
      refine hctl.mono ?_
      rintro e w4 ⟨gg, cap, rfl, hg, ho, hb4⟩
      clear hlen hctl
      go_wp2
      go_ret
      exact ⟨rfl, hB3.trans (hb4.mono hB3.size)⟩
end Go.Proofs.YtkjnifipepiahaaDoor
