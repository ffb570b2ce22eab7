import Derived.Test.YtefgnehahedckaaDs1To
import Derived.Lib.SlBytesConst
/-
  The document's examples: corbellaw08.lives.
-/
namespace Go.Proofs.Ytefgnehahedckaa
open Go.RowKit Go.Maps

def tA : ByteArray := ⟨#[97]⟩
def tB : ByteArray := ⟨#[98]⟩
def zeros (n : Nat) : List Int := List.replicate n 0
def lv0 : DM := DM.empty 3
def lv1 : DM := (lv0.create tA).2
def lv2 : DM := (lv1.append tA [120, 121, 122]).2
def lv3 : DM := lv2.syncs.2
def lv4 : DM := (lv3.create tB).2
def lv5 : DM := (lv4.append tB [112, 113]).2
def lv6 : DM := (lv5.append tA [114]).2
def lv7 : DM := lv6.crash 1
def lv7' : DM := (lv7.append tA []).2
def lv8 : DM := lv7'.start
def lv9 : DM := (lv8.append tA (zeros 61)).2
def lv10 : DM := (lv9.append tB (zeros 70)).2
theorem lv_says : (lv0.create tA).1 = 0 ∧ (lv1.append tA [120, 121, 122]).1 = 0 ∧ lv2.syncs.1 = 0 ∧ (lv3.create tB).1 = 0 ∧ (lv4.append tB [112, 113]).1 = 0 ∧ (lv5.append tA [114]).1 = 0 ∧ lv6.pendT = 3 ∧ lv7.off = true ∧ (lv7.append tA []).1 = 9 ∧
    lv8.readE tA = 0 ∧ lv8.readB tA = [120, 121, 122] ∧ lv8.readE tB = 0 ∧ lv8.readB tB = [112] ∧ (lv8.append tA (zeros 61)).1 = 0 ∧ lv9.usedT = 3 ∧ (lv9.append tB (zeros 70)).1 = 7 := by decide +kernel
theorem isB8_dec {l : List Int} (h : l.all (fun z => decide (0 ≤ z) && decide (z < 256)) = true) : isB8 l := fun z hz => by
  have := List.all_eq_true.1 h z hz
  simpa using this
theorem isB8_zeros (n : Nat) : isB8 (zeros n) := fun z hz => by
  rw [List.eq_of_mem_replicate hz]
  omega
theorem ok0 : lv0.OkN 0 := okN_empty 3 (by decide)
theorem ok1 : lv1.OkN 1 := ok0.create tA
theorem ok2 : lv2.OkN 2 := ok1.append tA (isB8_dec (by decide))
theorem ok3 : lv3.OkN 3 := ok2.syncs
theorem ok4 : lv4.OkN 4 := ok3.create tB
theorem ok5 : lv5.OkN 5 := ok4.append tB (isB8_dec (by decide))
theorem ok6 : lv6.OkN 6 := ok5.append tA (isB8_dec (by decide))
theorem ok7 : lv7.OkN 6 := ok6.crash 1
theorem ok7' : lv7'.OkN 7 := ok7.append tA (isB8_dec (by decide))
theorem ok8 : lv8.OkN 7 := ok7'.start
theorem ok9 : lv9.OkN 8 := ok8.append tA (isB8_zeros 61)
theorem short8 (x : ByteArray) (h : x.size ≤ 1000) : x.size ≤ maxLen := by unfold maxLen; omega

theorem made_list (z : Value) (n : Nat) : (madeCells #[z] n).toList = List.replicate n z := by
  apply List.ext_getElem
  · simp [madeCells]
  · intro i h1 h2
    simp [madeCells, Nat.mod_one]
theorem make8 (w : World) (n : Nat) (hn : n ≤ 100000) : ∃ w', (Instr.makeSlice 29 (.int .i64 (n : Int)) (.int .i64 (n : Int))).run Try.prog w = .ok (.slice (some ⟨w.heap.size, 0, none⟩) n n) w' ∧ Owns w' w.heap.size 5 (.slice (some ⟨w.heap.size, 0, none⟩) n n) (zeros n) ∧ Below w.heap.size w w' := by
  obtain ⟨i, hi, hz, hs, hb⟩ := info_parts (show (Try.prog.info? 5).map (fun i => (i.zero, i.size, i.bytes)) = some (some (.int .u8 0), 1, 1) by kernel_rfl)
  obtain ⟨w', hr, ho, hg⟩ := run_makeSlice_full (P := Try.prog) w w.heap.size 29 5 i (.int .u8 0) 1 Try.underlying29 hi hz hs .i64 .i64 n (by omega) (by rw [hb]; omega) (by unfold maxLen; omega) (Nat.le_refl _)
  refine ⟨w', hr, ?_, ⟨hg.os, hg.tape, hg.output, hg.size, fun k hk => hg.block k hk (by simp)⟩⟩
  unfold Owns zeros
  rw [List.length_replicate, show cellsB (List.replicate n 0) = List.replicate n (.int .u8 0) by simp [cellsB]]
  rw [show (Value.int IntKind.u8 0).cells = #[.int .u8 0] from rfl, Nat.mul_one, made_list] at ho
  exact ho
theorem HasX.of_owns {w : World} {S : Nat → Prop} {B : Nat} {v : Value} {xs : List Int} (h : Owns w B 5 v xs) (hS : ∀ k, S k → k < B) : HasX w S v xs := by
  rcases h.2 with ⟨rfl, hn⟩ | ⟨g, cap, cur, rfl, hB, hg, hnc, _, _, _⟩
  · exact ⟨none, 0, by rw [hn], by omega, fun _ => rfl, fun h0 => by omega⟩
  · obtain ⟨p, c, e, h1, h2, h3⟩ := h.has
    simp only [Value.slice.injEq] at e
    obtain ⟨rfl, _, rfl⟩ := e
    refine ⟨_, _, rfl, h1, h2, fun h0 => ?_⟩
    obtain ⟨b, o, e2, hb, hc⟩ := h3 h0
    refine ⟨b, o, e2, fun hs => ?_, hb, hc⟩
    simp only [Option.some.injEq, Addr.mk.injEq] at e2
    have := hS b hs
    omega

set_option maxRecDepth 10000 in
set_option maxHeartbeats 4000000 in
theorem lives8 (w : World) : Calls Try.prog 12 #[] w fun e w' => e = .returned (.bool true) ∧ Below w.heap.size w w' := by
  obtain ⟨s1, s2, s3, s4, s5, s6, s7, s8, s9, s10, s11, s12, s13, s14, s15, s16⟩ := lv_says
  have hA := short8 tA (by decide)
  have hB := short8 tB (by decide)
  go_enter Try.func12, Try.ntmps12
  go_wp2_with fail
  refine (Disk8.new 3 w w (by decide) (Below.refl _ _)).mono ?_
  rintro e w1 ⟨rfl, hD, -⟩
  generalize w.heap.size + 1 = d at *
  change Disk8 w w1 d _ lv0 at hD
  generalize (fun k => w.heap.size ≤ k ∧ k < w1.heap.size) = S at *
  have hc : Calls Try.prog 17 #[.pointer (some ⟨d, 0, none⟩), .string tA] w1 fun e w' => e = .returned (.int .i64 0) ∧ (∃ S, Disk8 w w' d S lv1) := (hD.create ok0 (by decide) hA).mono fun e w' ⟨h1, h2, _⟩ => ⟨by rw [h1, s1]; rfl, _, h2⟩
  clear hD
  go_wp2_with fail
  refine hc.mono ?_
  clear hc S
  rintro e w2 ⟨rfl, S, hD⟩
  have kc := Lib.run_convert_bytes_const (P := Try.prog) w2 29 5 #[.int .u8 120, .int .u8 121, .int .u8 122] 3 3 Try.underlying29 Try.underlying5
  have hx := HasX.lit (w := w2) (fun k hk => (hD.own k hk).2) [120, 121, 122] 5 (3, 4)
  have hD' := hD.below ((Below.refl _ w2).alloc (Nat.le_refl _) (.cells #[.int .u8 120, .int .u8 121, .int .u8 122] 5 (3, 4)))
  have hc : Calls Try.prog 20 #[.pointer (some ⟨d, 0, none⟩), .string tA, .slice (some ⟨w2.heap.size, 0, none⟩) 3 3] (w2.alloc (.cells #[.int .u8 120, .int .u8 121, .int .u8 122] 5 (3, 4))) fun e w' => e = .returned (.int .i64 0) ∧ (∃ S, Disk8 w w' d S lv2) := (hD'.append ok1 (by decide) hA hx (by decide)).mono fun e w' ⟨h1, h2, _⟩ => ⟨by rw [h1, s2]; rfl, _, h2⟩
  clear hD hD' hx
  go_wp2_with fail
  refine hc.mono ?_
  clear hc S kc
  rintro e w3 ⟨rfl, S, hD⟩
  have hc : Calls Try.prog 18 #[.pointer (some ⟨d, 0, none⟩)] w3 fun e w' => e = .returned (.int .i64 0) ∧ (∃ S, Disk8 w w' d S lv3) := (hD.sync ok2 (by decide)).mono fun e w' ⟨h1, h2, _⟩ => ⟨by rw [h1, s3]; rfl, _, h2⟩
  clear hD
  go_wp2_with fail
  refine hc.mono ?_
  clear hc S
  rintro e w4 ⟨rfl, S, hD⟩
  have hc : Calls Try.prog 17 #[.pointer (some ⟨d, 0, none⟩), .string tB] w4 fun e w' => e = .returned (.int .i64 0) ∧ (∃ S, Disk8 w w' d S lv4) := (hD.create ok3 (by decide) hB).mono fun e w' ⟨h1, h2, _⟩ => ⟨by rw [h1, s4]; rfl, _, h2⟩
  clear hD
  go_wp2_with fail
  refine hc.mono ?_
  clear hc S
  rintro e w5 ⟨rfl, S, hD⟩
  have kc := Lib.run_convert_bytes_const (P := Try.prog) w5 29 5 #[.int .u8 112, .int .u8 113] 2 2 Try.underlying29 Try.underlying5
  have hx := HasX.lit (w := w5) (fun k hk => (hD.own k hk).2) [112, 113] 5 (2, 3)
  have hD' := hD.below ((Below.refl _ w5).alloc (Nat.le_refl _) (.cells #[.int .u8 112, .int .u8 113] 5 (2, 3)))
  have hc : Calls Try.prog 20 #[.pointer (some ⟨d, 0, none⟩), .string tB, .slice (some ⟨w5.heap.size, 0, none⟩) 2 2] (w5.alloc (.cells #[.int .u8 112, .int .u8 113] 5 (2, 3))) fun e w' => e = .returned (.int .i64 0) ∧ (∃ S, Disk8 w w' d S lv5) := (hD'.append ok4 (by decide) hB hx (by decide)).mono fun e w' ⟨h1, h2, _⟩ => ⟨by rw [h1, s5]; rfl, _, h2⟩
  clear hD hD' hx
  go_wp2_with fail
  refine hc.mono ?_
  clear hc S kc
  rintro e w6 ⟨rfl, S, hD⟩
  have kc := Lib.run_convert_bytes_const (P := Try.prog) w6 29 5 #[.int .u8 114] 1 1 Try.underlying29 Try.underlying5
  have hx := HasX.lit (w := w6) (fun k hk => (hD.own k hk).2) [114] 5 (1, 2)
  have hD' := hD.below ((Below.refl _ w6).alloc (Nat.le_refl _) (.cells #[.int .u8 114] 5 (1, 2)))
  have hc : Calls Try.prog 20 #[.pointer (some ⟨d, 0, none⟩), .string tA, .slice (some ⟨w6.heap.size, 0, none⟩) 1 1] (w6.alloc (.cells #[.int .u8 114] 5 (1, 2))) fun e w' => e = .returned (.int .i64 0) ∧ (∃ S, Disk8 w w' d S lv6) := (hD'.append ok5 (by decide) hA hx (by decide)).mono fun e w' ⟨h1, h2, _⟩ => ⟨by rw [h1, s6]; rfl, _, h2⟩
  clear hD hD' hx
  go_wp2_with fail
  refine hc.mono ?_
  clear hc S kc
  rintro e w7 ⟨rfl, S, hD⟩
  have hc := pending_any hD.at8
  rw [s7] at hc
  go_wp2_with fail
  refine same_mono hc ?_
  clear hc
  have hc : Calls Try.prog 21 #[.pointer (some ⟨d, 0, none⟩), .int .i64 1] w7 fun e w' => (∃ v, e = .returned v) ∧ (∃ S, Disk8 w w' d S lv7) := (hD.crash ok6 (by decide) 1 (by decide)).mono fun e w' ⟨h1, h2, _⟩ => ⟨h1, _, h2⟩
  clear hD
  go_wp2_with fail
  refine hc.mono ?_
  clear hc S
  rintro e w8 ⟨⟨v, rfl⟩, S, hD⟩
  have hc := on_any hD.at8
  rw [s8] at hc
  go_wp2_with fail
  refine same_mono hc ?_
  clear hc
  have hx : HasX w8 S (.slice none 0 0) [] := ⟨_, _, rfl, Nat.le_refl _, fun _ => rfl, fun h => absurd h (Nat.lt_irrefl 0)⟩
  have hc : Calls Try.prog 20 #[.pointer (some ⟨d, 0, none⟩), .string tA, .slice none 0 0] w8 fun e w' => e = .returned (.int .i64 9) ∧ (∃ S, Disk8 w w' d S lv7') := (hD.append ok7 (by decide) hA hx (by decide)).mono fun e w' ⟨h1, h2, _⟩ => ⟨by rw [h1, s9]; rfl, _, h2⟩
  clear hD hx
  go_wp2_with fail
  refine hc.mono ?_
  clear hc S
  rintro e w9 ⟨rfl, S, hD⟩
  have hc : Calls Try.prog 22 #[.pointer (some ⟨d, 0, none⟩)] w9 fun e w' => (∃ v, e = .returned v) ∧ (∃ S, Disk8 w w' d S lv8) := hD.start.mono fun e w' ⟨h1, h2, _⟩ => ⟨h1, _, h2⟩
  clear hD
  go_wp2_with fail
  refine hc.mono ?_
  clear hc S
  rintro e w10 ⟨⟨v, rfl⟩, S, hD⟩
  have hc := read_any hD.at8 ok8.inv hA
  rw [s10, s11] at hc
  go_wp2_with fail
  refine hc.mono ?_
  clear hc
  rintro e w11 ⟨⟨va, rfl, oa⟩, hb⟩
  replace hD := hD.below hb
  have hc := read_any hD.at8 ok8.inv hB
  rw [s12, s13] at hc
  obtain ⟨pa, ca, rfl⟩ := oa.shape
  go_wp2_with fail
  refine hc.mono ?_
  clear hc hb
  rintro e w12 ⟨⟨vb, rfl, ob⟩, hb⟩
  replace oa := oa.below hb (Nat.le_refl _)
  replace hD := hD.below hb
  obtain ⟨pb, cb, rfl⟩ := ob.shape
  have ka : (convert 29 9 (.slice pa 3 ca)).run Try.prog w12 = .ok (.string ⟨#[120, 121, 122]⟩) w12 := oa.has.conv (P := Try.prog) 29 5 9 Try.underlying29 Try.underlying5 Try.underlying9
  have kb : (convert 29 9 (.slice pb 1 cb)).run Try.prog w12 = .ok (.string ⟨#[112]⟩) w12 := ob.has.conv (P := Try.prog) 29 5 9 Try.underlying29 Try.underlying5 Try.underlying9
  clear oa ob hb
  obtain ⟨w13, hr13, ho13, hb13⟩ := make8 w12 61 (by decide)
  have hr13' : (Instr.makeSlice 29 (.int .i64 61) (.int .i64 61)).run Try.prog w12 = .ok (.slice (some ⟨w12.heap.size, 0, none⟩) 61 61) w13 := hr13
  have hx := HasX.of_owns (S := S) ho13 fun k hk => (hD.own k hk).2
  have hD' := hD.below hb13
  have hc : Calls Try.prog 20 #[.pointer (some ⟨d, 0, none⟩), .string tA, .slice (some ⟨w12.heap.size, 0, none⟩) 61 61] w13 fun e w' => e = .returned (.int .i64 0) ∧ (∃ S, Disk8 w w' d S lv9) := (hD'.append ok8 (by decide) hA hx (by decide)).mono fun e w' ⟨h1, h2, _⟩ => ⟨by rw [h1, s14]; rfl, _, h2⟩
  clear hD hD' hx hr13 ho13 hb13
  go_wp2_with fail
  refine hc.mono ?_
  clear hc S
  rintro e w14 ⟨rfl, S, hD⟩
  have hc := used_any hD.at8
  rw [s15] at hc
  go_wp2_with fail
  refine same_mono hc ?_
  clear hc
  obtain ⟨w15, hr15, ho15, hb15⟩ := make8 w14 70 (by decide)
  have hr15' : (Instr.makeSlice 29 (.int .i64 70) (.int .i64 70)).run Try.prog w14 = .ok (.slice (some ⟨w14.heap.size, 0, none⟩) 70 70) w15 := hr15
  have hx := HasX.of_owns (S := S) ho15 fun k hk => (hD.own k hk).2
  have hD' := hD.below hb15
  have hc : Calls Try.prog 20 #[.pointer (some ⟨d, 0, none⟩), .string tB, .slice (some ⟨w14.heap.size, 0, none⟩) 70 70] w15 fun e w' => e = .returned (.int .i64 7) ∧ (∃ S, Disk8 w w' d S lv10) := (hD'.append ok9 (by decide) hB hx (by decide)).mono fun e w' ⟨h1, h2, _⟩ => ⟨by rw [h1, s16]; rfl, _, h2⟩
  clear hD hD' hx hr15 ho15 hb15
  go_wp2_with fail
  refine hc.mono ?_
  clear hc S
  rintro e w16 ⟨rfl, S, hD⟩
  go_wp2
  go_ret
  exact ⟨rfl, hD.bel⟩
end Go.Proofs.Ytefgnehahedckaa

/-
  Contract: corbelref08.Good; the walk of corbellaw08.DiskNames.
-/
namespace Go.Proofs.Ytefgnehahedckaa
open Go.RowKit Go.Maps

theorem chN_cases {c : Nat} (h : chN c = true) : (97 ≤ c ∧ c ≤ 122) ∨ (48 ≤ c ∧ c ≤ 57) ∨ c = 46 ∨ c = 45 := by
  unfold chN letN digN at h
  simp only [Bool.or_eq_true, Bool.and_eq_true, decide_eq_true_eq, beq_iff_eq] at h
  omega
theorem chN_not {c : Nat} (h : chN c = false) : c < 45 ∨ c = 47 ∨ (57 < c ∧ c < 97) ∨ 122 < c := by
  unfold chN letN digN at h
  simp only [Bool.or_eq_false_iff, Bool.and_eq_false_iff, decide_eq_false_iff_not, beq_eq_false_iff_ne] at h
  omega
set_option maxRecDepth 10000 in
set_option maxHeartbeats 2000000 in
theorem rgood_any (x : ByteArray) (hs : x.size ≤ maxLen) (w : World) : Calls Try.prog 16 #[.string x] w fun e w' => e = .returned (.bool (goodN x)) ∧ w' = w := by
  unfold maxLen at hs
  by_cases h0 : x.size = 0
  · have hg : goodN x = false := by unfold goodN; rw [h0]; rfl
    have h0' : (x.size : Int) < 1 := by omega
    rw [hg]
    go_enter Try.func16, Try.ntmps16
    go_wp2
    go_ret
    exact ⟨rfl, rfl⟩
  by_cases h24 : 24 < x.size
  · have hg : goodN x = false := by unfold goodN; rw [decide_eq_false (by omega : ¬ x.size ≤ 24)]; simp
    have h0' : ¬ (x.size : Int) < 1 := by omega
    have h24' : (24 : Int) < x.size := by omega
    rw [hg]
    go_enter Try.func16, Try.ntmps16
    go_wp2
    go_ret
    exact ⟨rfl, rfl⟩
  have hp : 0 < x.size := by omega
  have h0' : (1 : Int) ≤ x.size := by omega
  have h24' : (x.size : Int) ≤ 24 := by omega
  have he : goodN x = (letN x[0].toNat && x.data.toList.all fun c => chN c.toNat) := by
    unfold goodN
    rw [decide_eq_true (by omega : 1 ≤ x.size), decide_eq_true (by omega : x.size ≤ 24)]
    simp [List.getD_eq_getElem?_getD, List.getElem?_eq_getElem (by simpa using hp : 0 < x.data.toList.length)]
    rfl
  have hlt : (x[0].toNat : Int) < 97 ∨ (122 : Int) < x[0].toNat ∨ ((97 : Int) ≤ x[0].toNat ∧ (x[0].toNat : Int) ≤ 122) := by omega
  rcases hlt with hlt | hlt | ⟨hl1, hl2⟩
  · have hlet : letN x[0].toNat = false := by unfold letN; rw [decide_eq_false (by omega)]; rfl
    rw [hlet, Bool.false_and] at he
    rw [he]
    clear he hlet
    go_enter Try.func16, Try.ntmps16
    go_wp2
    go_ret
    exact ⟨rfl, rfl⟩
  · have hlet : letN x[0].toNat = false := by unfold letN; rw [decide_eq_false (by omega : ¬ x[0].toNat ≤ 122), Bool.and_false]
    have hl1 : (97 : Int) ≤ x[0].toNat := by omega
    rw [hlet, Bool.false_and] at he
    rw [he]
    clear he hlet
    go_enter Try.func16, Try.ntmps16
    go_wp2
    go_ret
    exact ⟨rfl, rfl⟩
  · have hlet : letN x[0].toNat = true := by unfold letN; rw [decide_eq_true (by omega), decide_eq_true (by omega)]; rfl
    rw [hlet, Bool.true_and] at he
    have he' : Hid (goodN x = x.data.toList.all fun c => chN c.toNat) := he
    clear he hlet
    go_enter Try.func16, Try.ntmps16
    go_wp2
    go_loop [3] (fun i => ∃ k : Nat, k ≤ x.size ∧ i = .int .i64 k ∧ Hid (((x.data.toList.take k).all fun c => chN c.toNat) = true)) (fun i => x.size - (intOf i).toNat)
    case atStart => exact ⟨0, Nat.zero_le _, rfl, rfl⟩
    case round =>
      obtain ⟨k, hk, rfl, ha⟩ := hrel
      by_cases hlt : k < x.size
      · have HS : Hid (((x.data.toList.take (k + 1)).all fun c => chN c.toNat) = chN x[k].toNat) := by
          show _ = _
          rw [take_snoc8 x k hlt, List.all_append, ha.out]
          simp
        have HF : Hid (chN x[k].toNat = false → goodN x = false) := by
          intro hc
          rw [he'.out, ← List.take_append_drop (k + 1) x.data.toList, List.all_append, HS.out, hc, Bool.false_and]
        clear he'
        generalize hxc : x[k].toNat = c at *
        cases hc : chN c with
        | true =>
          have HS' : Hid (((x.data.toList.take (k + 1)).all fun c => chN c.toNat) = true) := HS.out.trans hc
          have Hc := chN_cases hc
          clear HS HF hc
          rcases Hc with ⟨q1, q2⟩ | ⟨q1, q2⟩ | q | q
          · have p1 : (97 : Int) ≤ c := by omega
            have p2 : (c : Int) ≤ 122 := by omega
            go_wp2
            go_round
            case rel => exact ⟨k + 1, by omega, by go_num, HS'⟩
            case measure => simp only [intOf]; omega
          · have p1 : (c : Int) < 97 := by omega
            have p2 : (48 : Int) ≤ c := by omega
            have p3 : (c : Int) ≤ 57 := by omega
            go_wp2
            go_round
            case rel => exact ⟨k + 1, by omega, by go_num, HS'⟩
            case measure => simp only [intOf]; omega
          · subst q
            go_wp2
            go_round
            case rel => exact ⟨k + 1, by omega, by go_num, HS'⟩
            case measure => simp only [intOf]; omega
          · subst q
            go_wp2
            go_round
            case rel => exact ⟨k + 1, by omega, by go_num, HS'⟩
            case measure => simp only [intOf]; omega
        | false =>
          have Hg : Hid (goodN x = false) := HF.out hc
          have Hc := chN_not hc
          clear HS HF hc
          rcases Hc with q | q | ⟨q1, q2⟩ | q
          · have p1 : (c : Int) < 48 := by omega
            have p2 : (c : Int) < 97 := by omega
            have e46 : ((c : Int) == 46) = false := by rw [beq_eq_false_iff_ne]; omega
            have e45 : ((c : Int) == 45) = false := by rw [beq_eq_false_iff_ne]; omega
            go_wp2
            go_ret
            refine ⟨?_, rfl⟩
            rw [Hg.out]
            rfl
          · subst q
            go_wp2
            go_ret
            refine ⟨?_, rfl⟩
            rw [Hg.out]
            rfl
          · have p1 : (c : Int) < 97 := by omega
            have p2 : (48 : Int) ≤ c := by omega
            have p3 : decide ((c : Int) ≤ 57) = false := decide_eq_false (by omega)
            have e46 : ((c : Int) == 46) = false := by rw [beq_eq_false_iff_ne]; omega
            have e45 : ((c : Int) == 45) = false := by rw [beq_eq_false_iff_ne]; omega
            go_wp2
            go_ret
            refine ⟨?_, rfl⟩
            rw [Hg.out]
            rfl
          · have p1 : decide ((c : Int) ≤ 122) = false := decide_eq_false (by omega)
            have p2 : (97 : Int) ≤ c := by omega
            have p3 : (48 : Int) ≤ c := by omega
            have p4 : decide ((c : Int) ≤ 57) = false := decide_eq_false (by omega)
            have e46 : ((c : Int) == 46) = false := by rw [beq_eq_false_iff_ne]; omega
            have e45 : ((c : Int) == 45) = false := by rw [beq_eq_false_iff_ne]; omega
            go_wp2
            go_ret
            refine ⟨?_, rfl⟩
            rw [Hg.out]
            rfl
      · have hkn : k = x.size := by omega
        have hg : goodN x = true := by
          rw [he'.out, ← List.take_of_length_le (l := x.data.toList) (i := k) (by rw [hkn]; exact Nat.le_refl _)]
          exact ha.out
        have Hg : Hid (goodN x = true) := hg
        clear ha he' hg
        go_wp2
        go_ret
        refine ⟨?_, rfl⟩
        rw [Hg.out]
        rfl
set_option maxRecDepth 10000 in
theorem diskNames_any (x : ByteArray) (w : World) (hs : x.size ≤ maxLen) : Calls Try.prog 4 #[.string x] w fun e w' => e = .returned (.bool true) ∧ Below w.heap.size w w' := by
  by_cases hl : 1000 < x.size
  · have hl' : (1000 : Int) < x.size := by omega
    go_enter Try.func4, Try.ntmps4
    go_wp2
    go_ret
    exact ⟨rfl, Below.refl _ _⟩
  · have hl' : (x.size : Int) ≤ 1000 := by omega
    have hg := good_any x hs w
    have hr := rgood_any x hs w
    generalize goodN x = g at *
    go_enter Try.func4, Try.ntmps4
    go_wp2_with fail
    refine same_mono hg ?_
    go_wp2_with fail
    refine same_mono hr ?_
    cases g
    all_goals
      go_wp2_with fail
      refine (lives8 w).mono ?_
      rintro e w2 ⟨rfl, hb⟩
      go_wp2
      go_ret
      exact ⟨rfl, hb⟩
end Go.Proofs.Ytefgnehahedckaa
