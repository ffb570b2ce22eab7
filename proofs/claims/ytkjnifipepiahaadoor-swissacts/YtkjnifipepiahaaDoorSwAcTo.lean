import Derived.Test.YtkjnifipepiahaaDoorSwIgiTo
import Derived.Test.YtkjnifipepiahaaDoorRM9To
import Derived.Test.YtkjnifipepiahaaDoorRqTo
import Derived.Deep.RegionHeld3
import Derived.Deep.RegionWith
/-
  The document's examples on maps of ints: corbellaw05.lives.
-/
namespace Go.Proofs.YtkjnifipepiahaaDoor
open Go.RowKit Go.Shelf

def valB : Value → Bool
  | .int .i64 _ => true
  | _ => false
theorem valB_is {v : Value} (h : valB v = true) : IsV_i v := by
  unfold valB at h
  split at h
  · exact ⟨_, rfl⟩
  · cases h
/-- What Put and Delete ask of a map of ints, reckoned. -/
def saneB (M : SM) : Bool :=
  isGood M.ws.length && decide (M.ss.length = 8 * M.ws.length) && (List.range M.ws.length).all (fun g => decide (M.w g < 18446744073709551616)) && decide (M.n ≤ 1099511627776) && decide (M.t ≤ 1099511627776) &&
  (List.range M.ss.length).all (fun p => decide ((M.s p).1.size < 140737488355328) && valB (M.s p).2) &&
  (List.range M.ws.length).all (fun g => (List.range 8).all fun i => (!decide (byteN (M.w g) i = 254) || decide (1 ≤ M.t)) && (!decide (byteN (M.w g) i < 128) || decide (1 ≤ M.n))) &&
  (!decide (7 * M.ws.length ≤ M.n + M.t) || isGood M.size')
theorem saneB_is {M : SM} (h : saneB M = true) : M.Sane IsV_i := by
  unfold saneB at h
  simp only [Bool.and_eq_true, List.all_eq_true, decide_eq_true_eq, List.mem_range, Bool.or_eq_true, Bool.not_eq_true', decide_eq_false_iff_not] at h
  obtain ⟨⟨⟨⟨⟨⟨⟨h1, h2⟩, h3⟩, h4⟩, h5⟩, h6⟩, h7⟩, h8⟩ := h
  refine ⟨⟨h1, h2, h3, ⟨h4, h5⟩, fun p hp => (h6 p hp).1⟩, fun p hp => valB_is (h6 p hp).2, fun g i hg hi he => ?_, fun g i hg hi he => ?_, fun hr _ => ?_⟩
  · rcases (h7 g hg i hi).1 with h | h
    · exact absurd he h
    · exact h
  · rcases (h7 g hg i hi).2 with h | h
    · exact absurd he h
    · exact h
  · rcases h8 with h | h
    · exact absurd hr h
    · exact h

def liveK (i : Nat) : ByteArray := ⟨#[UInt8.ofNat (97 + i)]⟩
def liveM : Nat → SM
  | 0 => SM.empty 0 0 (.int .i64 0) 1
  | i + 1 => ((liveM i).put (liveK i) (.int .i64 (i : Nat)) (.int .i64 0)).2.2
def getB : Value × Bool → Bool
  | (.int .i64 9, true) => true
  | _ => false
theorem live_puts : ∀ i : Fin 8, saneB (liveM i.val) = true ∧ ((liveM i.val).put (liveK i.val) (.int .i64 (i.val : Nat)) (.int .i64 0)).1 = false ∧ ((liveM i.val).put (liveK i.val) (.int .i64 (i.val : Nat)) (.int .i64 0)).2.1 = 0 := by decide +kernel
theorem live_seven : (liveM 7).ws.length = 1 := by decide +kernel
theorem live_eight : saneB (liveM 8) = true ∧ ((liveM 8).put ⟨#[99]⟩ (.int .i64 9) (.int .i64 0)).1 = true ∧ ((liveM 8).put ⟨#[99]⟩ (.int .i64 9) (.int .i64 0)).2.1 = 0 := by decide +kernel
theorem live_nine : saneB ((liveM 8).put ⟨#[99]⟩ (.int .i64 9) (.int .i64 0)).2.2 = true ∧ getB (((liveM 8).put ⟨#[99]⟩ (.int .i64 9) (.int .i64 0)).2.2.get ⟨#[99]⟩ (.int .i64 0)) = true ∧
    ((liveM 8).put ⟨#[99]⟩ (.int .i64 9) (.int .i64 0)).2.2.n = 8 ∧ ((liveM 8).put ⟨#[99]⟩ (.int .i64 9) (.int .i64 0)).2.2.ws.length = 2 := by decide +kernel
end Go.Proofs.YtkjnifipepiahaaDoor

/-
  The walk of corbellaw05.lives.
-/
namespace Go.Proofs.YtkjnifipepiahaaDoor
open Go.RowKit Go.Shelf

theorem live_conv (i : Nat) (hi : i < 8) : strOfNums [((97 + i : Nat) : Int)] = liveK i := (by decide +kernel : ∀ i : Fin 8, strOfNums [((97 + i.val : Nat) : Int)] = liveK i.val) ⟨i, hi⟩
theorem liveK_size (i : Nat) : (liveK i).size < 140737488355328 := by show 1 < _; omega
theorem getB_is {r : Value × Bool} (h : getB r = true) : r = (.int .i64 9, true) := by
  unfold getB at h
  split at h
  · rfl
  · cases h

set_option maxRecDepth 10000 in
set_option maxHeartbeats 4000000 in
theorem lives_any (w : World) (hT : Tab w) : Calls Tryd.prog 12 #[] w fun e w' => e = .returned (.bool true) ∧ Below w.heap.size w w' := by
  have hw0 := hT.1
  have hnew := new_any_i 0 0 0 w (by omega) (by omega) (by decide)
  rw [show (needI 0).toNat = 1 by decide] at hnew
  go_enter Tryd.func12, Tryd.ntmps12
  go_wp2_with fail
  refine hnew.mono ?_
  rintro e w1 ⟨b, bw0, bs0, rfl, hl0, g1, g2, g3, hb1⟩
  clear hnew
  go_wp2
  go_loopw [2] (fun t wr => ∃ (i bw bs : Nat), i ≤ 8 ∧ t = .int .i64 (i : Nat) ∧ Lies 60 93 wr b bw bs (liveM i) ∧ w.heap.size ≤ bw ∧ w.heap.size ≤ bs ∧ Below w.heap.size w wr) (fun t _ => 8 - (intOf t).toNat)
  case atStart => exact ⟨0, bw0, bs0, by omega, rfl, hl0, g2, g3, hb1⟩
  case round =>
    obtain ⟨i, bw, bs, hi, rfl, hl, q2, q3, hb⟩ := hrel
    have hTr := hT.below hb hw0
    by_cases hlt : i < 8
    · obtain ⟨hsane, hp1, hp2⟩ := live_puts ⟨i, hlt⟩
      dsimp only at hsane hp1 hp2
      have hcv := live_conv i hlt
      have hlit := Has.lit wr [((97 + i : Nat) : Int)] 5
      have hconv := hlit.conv (P := Tryd.prog) 73 5 9 Tryd.underlying73 Tryd.underlying5 Tryd.underlying9
      rw [hcv] at hconv
      simp only [List.map_cons, List.map_nil, List.length_cons, List.length_nil, Nat.zero_add] at hconv
      rw [show ((97 + i : Nat) : Int) = 97 + (i : Int) by omega] at hconv
      have hb2 : Below wr.heap.size wr (wr.alloc (.cells #[.int .u8 (97 + (i : Int))] 5)) := (Below.refl _ _).alloc (Nat.le_refl _) _
      have hput := put_any_i b bw bs (liveM i) (liveK i) (i : Nat) (wr.alloc (.cells #[.int .u8 (97 + (i : Int))] 5)) (hTr.below hb2 hTr.1) (hl.below hb2 (Nat.le_refl _)) (saneB_is hsane) (liveK_size i)
      rw [hp1, hp2] at hput
      have hlm : ((liveM i).put (liveK i) (.int .i64 (i : Nat)) (.int .i64 0)).2.2 = liveM (i + 1) := rfl
      rw [hlm] at hput
      clear hp1 hp2 hlm hcv hlit
      have hz2 : (wr.alloc (.cells #[.int .u8 (97 + (i : Int))] 5)).heap.size = wr.heap.size + 1 := by simp
      have hzr := hb.size
      go_wp2_with fail
      refine hput.mono ?_
      rintro e w2 ⟨rfl, bw', bs', hl2, hbut, h1, h2⟩
      have hB2 : Below w.heap.size w w2 := (hb.trans (hb2.mono hzr)).trans (hbut.below (B := w.heap.size) (by simp; omega) (by omega))
      have g2' : w.heap.size ≤ bw' := by omega
      have g3' : w.heap.size ≤ bs' := by omega
      clear hput hconv hb2 hl hbut h1 h2
      by_cases h6 : i = 6
      · subst h6
        have hseven := live_seven
        have hf7 : (liveM 7).Fit := (saneB_is (live_puts ⟨7, by decide⟩).1).fit
        have hctl := controls_any_i b bw' bs' (liveM (6 + 1)) w2 hl2 hf7
        rw [show (liveM (6 + 1)).ws.length = 1 from hseven] at hctl
        clear hseven
        go_wp2_with fail
        refine hctl.mono ?_
        rintro e w3 ⟨gg, cap, rfl, hg, ho, hb3⟩
        have hl3 := hl2.below hb3 (Nat.le_refl _)
        have hB3 := hB2.trans (hb3.mono hB2.size)
        clear hctl hl2 ho hB2 hb3
        go_wp2
        go_roundw
        case rel => exact ⟨7, bw', bs', by omega, rfl, hl3, g2', g3', hB3⟩
        case measure => simp only [intOf]; omega
      · have h6' : ((i : Int) == 6) = false := by rw [beq_eq_false_iff_ne]; omega
        go_wp2
        go_roundw
        case rel => exact ⟨i + 1, bw', bs', by omega, by simp, hl2, g2', g3', hB2⟩
        case measure => simp only [intOf]; omega
    · obtain rfl : i = 8 := by omega
      obtain ⟨hs8, hp1, hp2⟩ := live_eight
      obtain ⟨hs9, hg9, hn9, hw9⟩ := live_nine
      have hput := put_any_i b bw bs (liveM 8) ⟨#[99]⟩ 9 wr hTr hl (saneB_is hs8) (by show 1 < _; omega)
      rw [hp1, hp2] at hput
      generalize ((liveM 8).put ⟨#[99]⟩ (.int .i64 9) (.int .i64 0)).2.2 = M9 at *
      have hS9 := saneB_is hs9
      have hG := getB_is hg9
      clear hs8 hp1 hp2 hs9 hg9
      go_wp2_with fail
      refine hput.mono ?_
      rintro e w2 ⟨rfl, bw', bs', hl2, hbut, h1, h2⟩
      have hzr := hb.size
      have hB2 : Below w.heap.size w w2 := hb.trans (hbut.below (B := w.heap.size) (by simp; omega) (by omega))
      have hT2 := hT.below hB2 hw0
      have hget := get_map_i b bw' bs' M9 ⟨#[99]⟩ w2 hT2 hl2 hS9.fit hS9.typed (by show 1 < _; omega)
      rw [hG] at hget
      clear hput hl hbut
      go_wp2_with fail
      refine hget.mono ?_
      rintro e w3 ⟨rfl, hb3⟩
      have hl3 := hl2.below hb3 (Nat.le_refl _)
      have hB3 := hB2.trans (hb3.mono hB2.size)
      have hlen := len_any_i b bw' bs' M9 w3 hl3 hS9.fit
      have hctl := controls_any_i b bw' bs' M9 w3 hl3 hS9.fit
      rw [hn9] at hlen
      rw [hw9] at hctl
      clear hget hl2 hB2 hb3 hn9 hw9
      go_wp2_with fail
      refine same_mono hlen ?_
      go_wp2_with fail
      refine hctl.mono ?_
      rintro e w4 ⟨gg, cap, rfl, hg, ho, hb4⟩
      clear hlen hctl
      go_wp2
      go_ret
      exact ⟨rfl, hB3.trans (hb4.mono hB3.size)⟩
end Go.Proofs.YtkjnifipepiahaaDoor

/-
  The walk of corbellaw05.SwissActs.
-/
namespace Go.Proofs.YtkjnifipepiahaaDoor
open Go.RowKit Go.Shelf

theorem keepK {w w1 w2 : World} {x y : Value} (hb : Below w1.heap.size w1 w2) (h : w1.cell? ⟨w.heap.size, 0, none⟩ = some x ∧ w1.cell? ⟨w.heap.size, 1, none⟩ = some y ∧ Below w.heap.size w w1 ∧ w.heap.size < w1.heap.size) :
    w2.cell? ⟨w.heap.size, 0, none⟩ = some x ∧ w2.cell? ⟨w.heap.size, 1, none⟩ = some y ∧ Below w.heap.size w w2 ∧ w.heap.size < w2.heap.size := by
  obtain ⟨h0, h1, hw, hz⟩ := h
  exact ⟨(hb.cell (p := ⟨w.heap.size, 0, none⟩) hz).trans h0, (hb.cell (p := ⟨w.heap.size, 1, none⟩) hz).trans h1, hw.trans (hb.mono hw.size), Nat.lt_of_lt_of_le hz hb.size⟩
theorem holdK (w : World) (x y : Value) (t : TypeId) : (w.alloc (.cells #[x, y] t)).drew.cell? ⟨w.heap.size, 0, none⟩ = some x ∧ (w.alloc (.cells #[x, y] t)).drew.cell? ⟨w.heap.size, 1, none⟩ = some y ∧ Below w.heap.size w (w.alloc (.cells #[x, y] t)).drew ∧ w.heap.size < (w.alloc (.cells #[x, y] t)).drew.heap.size := by
  obtain ⟨h0, h1⟩ := slot_cell (w := w) (x := x) (y := y) (t := t)
  exact ⟨h0, h1, ((Below.refl _ _).alloc (Nat.le_refl _) _).drew, by show w.heap.size < (w.alloc _).heap.size; simp⟩
theorem heldK {w w1 : World} {x y : Value} (h : w1.cell? ⟨w.heap.size, 0, none⟩ = some x ∧ w1.cell? ⟨w.heap.size, 1, none⟩ = some y ∧ Below w.heap.size w w1 ∧ w.heap.size < w1.heap.size) : Below w.heap.size w w1 := h.2.2.1
theorem act3 {w : World} {k : Nat} {kd : Int} {ky vl : ByteArray} (hh : w.heap[k]? = some (.cells #[.int .i64 kd, .string ky, .string vl] 33 (0, 0))) : w.cell? ⟨k, 0, none⟩ = some (.int .i64 kd) ∧ w.cell? ⟨k, 1, none⟩ = some (.string ky) ∧ w.cell? ⟨k, 2, none⟩ = some (.string vl) := by
  refine ⟨?_, ?_, ?_⟩
  all_goals
    unfold World.cell?
    dsimp only
    rw [hh]
    rfl
theorem pair_new {w W u1 u : World} {c1 cw1 cs1 b bw bs g : Nat} {k0 k1 : Int} (hB0 : Below w.heap.size w W)
    (hl1 : Lies 79 76 u1 c1 cw1 cs1 (SM.empty k0 k1 (.string ⟨#[]⟩) g)) (hz : isGood (g : Int) = true) (f1 : W.heap.size ≤ c1) (f2 : W.heap.size ≤ cw1) (f3 : W.heap.size ≤ cs1) (hb1 : Below W.heap.size W u1)
    (hl : Lies 85 82 u b bw bs (SM.empty k0 k1 (.string ⟨#[]⟩) g)) (g1 : u1.heap.size ≤ b) (g2 : u1.heap.size ≤ bw) (g3 : u1.heap.size ≤ bs) (hb : Below u1.heap.size u1 u) :
    Pair w u c1 b (SM.empty k0 k1 (.string ⟨#[]⟩) g) (SM.empty k0 k1 (.string ⟨#[]⟩) g) := by
  obtain ⟨i1, _⟩ := inv_empty k0 k1 (.string ⟨#[]⟩) g hz (isV_string _)
  have hlt := hl1.lt
  have e1 := hB0.size
  have e2 := hb1.size
  refine ⟨⟨cw1, cs1, bw, bs, hl1.below hb (Nat.le_refl _), hl, ?_⟩, i1, i1, (hB0.trans (hb1.mono e1)).trans (hb.mono (by omega))⟩
  unfold Six
  omega

set_option maxRecDepth 10000 in
set_option maxHeartbeats 8000000 in
theorem swissActs_any (k0 k1 hint : Int) (p : Option Addr) (n c : Nat) (xs : List Act') (hlen : xs.length = n) (w : World) (hT : Tab w) (_hk0 : 0 ≤ k0 ∧ k0 ≤ 18446744073709551615) (_hk1 : 0 ≤ k1 ∧ k1 ≤ 18446744073709551615) (hh : -9223372036854775808 ≤ hint ∧ hint ≤ 9223372036854775807) (hX : HasA w (.slice p n c) xs) (hn : (n : Int) ≤ 9223372036854775807) :
    Calls Tryd.prog 3 #[.agg #[.int .u64 k0, .int .u64 k1], .int .i64 hint, .slice p n c] w fun e w' => e = .returned (.bool true) ∧ Below w.heap.size w w' := by
  have hw0 := hT.1
  have hlives := fun (W : World) (hW : Below w.heap.size w W) => lives_any W (hT.below hW hw0)
  have s0 := holdK w (.int .u64 k0) (.int .u64 k1) 24
  by_cases hneed : needI hint = 0
  · go_enter Tryd.func3, Tryd.ntmps3
    go_wp2_with fail
    go_region_held3 (fun w' => w'.cell? ⟨w.heap.size, 0, none⟩ = some (.int .u64 k0) ∧ w'.cell? ⟨w.heap.size, 1, none⟩ = some (.int .u64 k1) ∧ Below w.heap.size w w' ∧ w.heap.size < w'.heap.size)
      (first | exact s0 | exact keepK (by assumption) (by assumption))
      (first
        | (go_at_call 9; refine (new_nil_s k0 k1 hint _ (by omega) (by omega) hneed).mono ?_; rintro e w1 ⟨rfl, hb1⟩)
        | (go_at_call 10; refine same_mono (rnew_nil k0 k1 hint _ (by omega) (by omega) hneed) ?_))
    go_wp2_with fail
    refine (hlives _ (heldK (by assumption))).mono ?_
    rintro e w3 ⟨rfl, hb3⟩
    go_wp2
    go_ret
    exact ⟨rfl, (heldK (by assumption)).trans (hb3.mono (heldK (by assumption)).size)⟩
  · have hgood := (need_good hint).resolve_left hneed
    have hgr := good_range hgood
    have hgt : isGood (((needI hint).toNat : Nat) : Int) = true := by rw [show (((needI hint).toNat : Nat) : Int) = needI hint by omega]; exact hgood
    go_enter Tryd.func3, Tryd.ntmps3
    go_wp2_with fail
    go_region_held3 (fun w' => w'.cell? ⟨w.heap.size, 0, none⟩ = some (.int .u64 k0) ∧ w'.cell? ⟨w.heap.size, 1, none⟩ = some (.int .u64 k1) ∧ Below w.heap.size w w' ∧ w.heap.size < w'.heap.size)
      (first | exact s0 | exact keepK (by assumption) (by assumption))
      (first
        | (go_at_call 9; refine (new_any_s k0 k1 hint _ (by omega) (by omega) hneed).mono ?_; rintro e w1 ⟨b, bw, bs, rfl, hl1, g1, g2, g3, hb1⟩)
        | (go_at_call 10; refine (rnew_any k0 k1 hint _ (by omega) (by omega) (by omega) hneed).mono ?_; rintro e w2 ⟨c2, cw, cs, rfl, hl2, f1, f2, f3, hb2⟩))
    have hp := pair_new s0.2.2.1 hl1 hgt g1 g2 g3 hb1 hl2 f1 f2 f3 hb2
    have hM0 : (SM.empty k0 k1 (.string ⟨#[]⟩) (needI hint).toNat).n = 0 := rfl
    clear hl1 hl2 g1 g2 g3 f1 f2 f3 hb1 hb2 hgt hgr hgood s0
    generalize SM.empty k0 k1 (.string ⟨#[]⟩) (needI hint).toNat = M0 at *
    go_wp2_with fail
    refine (few_any p n c xs hlen w2 (hX.below hp.bel (Nat.le_refl _)) hn).mono ?_
    rintro e w3 ⟨r1, rfl, hr1, hb3⟩
    replace hp := hp.below hb3
    clear hb3
    cases r1 with
    | false =>
      go_wp2_with fail
      refine (hlives w3 hp.bel).mono ?_
      rintro e w4 ⟨rfl, hb4⟩
      go_wp2
      go_ret
      exact ⟨rfl, hp.bel.trans (hb4.mono hp.bel.size)⟩
    | true =>
      have hf1 := few_len (hr1 rfl)
      rw [hlen] at hf1
      clear hr1 hlen
      go_wp2
      go_loopw [45, 7] (fun t m wr => ∃ (j b : Nat) (M : SM), j ≤ n ∧ t = .int .i64 (j : Nat) ∧ m = .pointer (some ⟨b, 0, none⟩) ∧ M.n ≤ j ∧ Pair w wr b c2 M M) (fun t _ _ => n - (intOf t).toNat)
      case atStart => exact ⟨0, b, M0, by omega, rfl, rfl, by omega, hp⟩
      case round =>
        obtain ⟨j, b, M, hj, rfl, rfl, hnj, hp⟩ := hrel
        by_cases hlt : j < n
        · obtain ⟨bb, oo, rfl, hbb, hcc, d1, d2, d3, z1, z2⟩ := act_at hX hp.bel hlt
          generalize xs.getD j default = act at *
          obtain ⟨kd, ky, vl⟩ := act
          dsimp only at d1 d2 d3 z1 z2
          have hA := heap_alloc_new wr (.cells #[.int .i64 kd, .string ky, .string vl] 33)
          obtain ⟨a0, a1, a2⟩ := act3 hA
          have ha := hp.below ((Below.refl _ wr).alloc (Nat.le_refl _) (.cells #[.int .i64 kd, .string ky, .string vl] 33))
          have hza : (wr.alloc (.cells #[.int .i64 kd, .string ky, .string vl] 33)).heap.size = wr.heap.size + 1 := by simp
          clear hp
          by_cases hk0 : kd = 0
          · subst hk0
            obtain ⟨_, _, _, i4⟩ := inv_put ha.2.1 (key := ky) (v := .string vl) (z := (.string ⟨#[]⟩)) (isV_string _) (isV_string _) (by omega)
            obtain ⟨_, _, i7, _⟩ := i4 (by omega)
            have hn' : (M.put ky (.string vl) (.string ⟨#[]⟩)).2.2.n ≤ j + 1 := by rw [i7]; split <;> omega
            clear i4 i7
            go_wp2_with fail
            generalize wr.alloc (.cells #[.int .i64 0, .string ky, .string vl] 33) = Wa at *
            generalize wr.heap.size = ab at *
            refine (ha.putL hT ky vl (by omega)).mono ?_
            rintro e w5 ⟨rfl, h5, q5⟩
            have hA5 := q5 _ _ _ hA
            obtain ⟨_, a1', a2'⟩ := act3 hA5
            clear ha q5 a0 a1 a2 d1 d2 d3
            go_wp2_with fail
            refine (h5.putR ky vl hw0 (by omega)).mono ?_
            rintro e w6 ⟨rfl, h6, q6⟩
            clear h5 q6 a1' a2' hA5 hA
            generalize (M.put ky (.string vl) (.string ⟨#[]⟩)).2.2 = M' at *
            generalize (M.put ky (.string vl) (.string ⟨#[]⟩)).2.1 = er at *
            generalize (M.put ky (.string vl) (.string ⟨#[]⟩)).1 = is at *
            go_wp2_with fail
            refine (h6.alike hT (by omega)).mono ?_
            rintro e w9 ⟨rfl, h9⟩
            go_wp2
            go_roundw
            case rel => exact ⟨j + 1, b, M', by omega, by simp, rfl, hn', h9⟩
            case measure => simp only [intOf]; omega
          · by_cases hk1 : kd = 1
            · subst hk1
              obtain ⟨_, _, _, _, _, i6, _⟩ := inv_del ha.2.1 (key := ky) (z := (.string ⟨#[]⟩)) (isV_string _)
              have hn' : (M.del ky (.string ⟨#[]⟩)).2.n ≤ j + 1 := by omega
              clear i6
              go_wp2_with fail
              generalize wr.alloc (.cells #[.int .i64 1, .string ky, .string vl] 33) = Wa at *
              generalize wr.heap.size = ab at *
              go_region_with (first
                | (go_at_call 15; refine (ha.drew.delL hT ky (by omega)).mono ?_; rintro e w5 ⟨rfl, h5, q5⟩; obtain ⟨_, a1', _⟩ := act3 (q5 _ _ _ hA))
                | (go_at_call 16; refine (h5.delR ky (by omega)).mono ?_; rintro e w6 ⟨rfl, h6, q6⟩))
              all_goals
                clear h5 q5 q6 a1' hA ha a0 a1 a2 d1 d2 d3
                generalize (M.del ky (.string ⟨#[]⟩)).2 = M' at *
                generalize (M.del ky (.string ⟨#[]⟩)).1 = is at *
                go_wp2_with fail
                refine (h6.alike hT (by omega)).mono ?_
                rintro e w9 ⟨rfl, h9⟩
                go_wp2
                go_roundw
                case rel => exact ⟨j + 1, b, M', by omega, by simp, rfl, hn', h9⟩
                case measure => simp only [intOf]; omega
            · by_cases hk2 : kd = 2
              · subst hk2
                go_wp2_with fail
                generalize wr.alloc (.cells #[.int .i64 2, .string ky, .string vl] 33) = Wa at *
                generalize wr.heap.size = ab at *
                refine (ha.getL hT ky (by omega)).mono ?_
                rintro e w5 ⟨rfl, h5, q5⟩
                have hA5 := q5 _ _ _ hA
                obtain ⟨_, a1', a2'⟩ := act3 hA5
                clear ha q5 a0 a1 a2 d1 d2 d3
                go_wp2_with fail
                refine (h5.getR ky (by omega)).mono ?_
                rintro e w6 ⟨rfl, h6, q6⟩
                clear h5 q6 a1' a2' hA5 hA
                generalize valK M ky = x at *
                generalize (M.get ky (.string ⟨#[]⟩)).2 = is at *
                go_wp2_with fail
                refine (h6.alike hT (by omega)).mono ?_
                rintro e w9 ⟨rfl, h9⟩
                go_wp2
                go_roundw
                case rel => exact ⟨j + 1, b, M, by omega, by simp, rfl, by omega, h9⟩
                case measure => simp only [intOf]; omega
              · by_cases hk3 : kd = 3
                · subst hk3
                  go_wp2_with fail
                  generalize wr.alloc (.cells #[.int .i64 3, .string ky, .string vl] 33) = Wa at *
                  generalize wr.heap.size = ab at *
                  have hTa : Tab Wa := hT.below ha.bel hw0
                  refine ha.side.mono ?_
                  rintro e w5 ⟨d, rfl, h5⟩
                  obtain ⟨_, a1', a2'⟩ := act3 (Acts.below h5.bel _ _ _ hA)
                  clear a0 a1 a2 d1 d2 d3
                  go_wp2_with fail
                  refine (h5.put hTa _ vl (by decide)).mono ?_
                  rintro e w6 ⟨x, y, M1, rfl, h6⟩
                  obtain ⟨_, a1'', a2''⟩ := act3 (Acts.below h6.bel _ _ _ hA)
                  clear h5 a1' a2'
                  go_wp2_with fail
                  refine (h6.del hTa ky (by omega)).mono ?_
                  rintro e w7 ⟨x', M2, rfl, h7⟩
                  have hp7 := ha.below h7.bel
                  clear h6 h7 ha a1'' a2'' hA
                  go_wp2_with fail
                  refine hp7.copy.mono ?_
                  rintro e w8 ⟨d', rfl, _, h8, _, _⟩
                  clear hp7
                  go_wp2_with fail
                  refine (h8.alike hT (by omega)).mono ?_
                  rintro e w9 ⟨rfl, h9⟩
                  go_wp2
                  go_roundw
                  case rel => exact ⟨j + 1, d', M, by omega, by simp, rfl, by omega, h9⟩
                  case measure => simp only [intOf]; omega
                · go_wp2_with fail
                  clear d1 d2 d3 hA
                  generalize wr.alloc (.cells #[.int .i64 kd, .string ky, .string vl] 33) = Wa at *
                  refine (ha.alike hT (by omega)).mono ?_
                  rintro e w9 ⟨rfl, h9⟩
                  go_wp2
                  go_roundw
                  case rel => exact ⟨j + 1, b, M, by omega, by simp, rfl, by omega, h9⟩
                  case measure => simp only [intOf]; omega
        · go_wp2_with fail
          refine (hlives wr hp.bel).mono ?_
          rintro e w9 ⟨rfl, hb9⟩
          go_wp2
          go_ret
          exact ⟨rfl, hp.bel.trans (hb9.mono hp.bel.size)⟩
end Go.Proofs.YtkjnifipepiahaaDoor
