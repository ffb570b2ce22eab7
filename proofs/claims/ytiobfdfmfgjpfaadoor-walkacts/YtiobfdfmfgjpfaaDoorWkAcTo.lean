import Derived.Test.YtiobfdfmfgjpfaaDoorHeldtTo
import Derived.Test.YtiobfdfmfgjpfaaDoorWkPTo
import Derived.Test.YtiobfdfmfgjpfaaDoorSwYTo
import Derived.Deep.RegionHeld3
import Derived.Deep.RegionWith
/-
  The walk of corbellaw06.lives: the document's example.
-/
namespace Go.Proofs.YtiobfdfmfgjpfaaDoor
open Go.RowKit Go.Shelf

def liveK6 (i : Nat) : ByteArray := ⟨#[UInt8.ofNat (97 + i)]⟩
def liveM6 : Nat → SM
  | 0 => SM.empty 0 0 (.string ⟨#[]⟩) 1
  | i + 1 => ((liveM6 i).put (liveK6 i) (.string (liveK6 i)) (.string ⟨#[]⟩)).2.2
def deadM6 : Nat → SM
  | 0 => liveM6 3
  | j + 1 => if j = 0 then liveM6 3 else ((deadM6 j).del ((liveM6 3).keys.getD j ByteArray.empty) (.string ⟨#[]⟩)).2
theorem live6_three : (liveM6 3).keys.length = 3 := by decide +kernel
theorem dead6_end : ((deadM6 3).skip (liveM6 3).keys.tail).isEmpty = true ∧ (deadM6 3).n = 1 := by decide +kernel
theorem liveK6_size (i : Nat) : (liveK6 i).size < 140737488355328 := by show 1 < _; omega
theorem live6_inv : ∀ i, (liveM6 i).Inv IsV_s
  | 0 => (inv_empty 0 0 (.string ⟨#[]⟩) 1 (by decide) (isV_string _)).1
  | i + 1 => (inv_put (live6_inv i) (key := liveK6 i) (v := .string (liveK6 i)) (z := .string ⟨#[]⟩) (isV_string _) (isV_string _) (liveK6_size i)).1
theorem dead6_inv : ∀ j, (deadM6 j).Inv IsV_s
  | 0 => live6_inv 3
  | j + 1 => by
    unfold deadM6
    split
    · exact live6_inv 3
    · exact (inv_del (dead6_inv j) (z := .string ⟨#[]⟩) (isV_string _)).1
theorem infoT3 : (Tryd.prog.info? 9).map (fun i => (i.zero, i.size, i.bytes)) = some (some (.string ⟨#[]⟩), 1, 16) := by kernel_rfl
theorem index_three (x y z : Value) (W : World) : (Instr.index 74 (.agg #[x, y, z]) (.int .i64 0)).run Tryd.prog W = .ok x W ∧ (Instr.index 74 (.agg #[x, y, z]) (.int .i64 1)).run Tryd.prog W = .ok y W ∧ (Instr.index 74 (.agg #[x, y, z]) (.int .i64 2)).run Tryd.prog W = .ok z W := by
  obtain ⟨i1, hi1, hz1, hs1, hb1⟩ := info_parts infoT3
  refine ⟨?_, ?_, ?_⟩
  all_goals simp [Instr.index, asIntOf, run_underlying Tryd.underlying74, sizeOf, typeInfo, hi1, hs1, part, go_sem]
theorem nodup_ne : ∀ {xs : List ByteArray}, xs.Nodup → ∀ {i j : Nat}, i < xs.length → j < xs.length → i ≠ j → xs.getD i ByteArray.empty ≠ xs.getD j ByteArray.empty := by
  intro xs h i j hi hj hne e
  rw [List.getD_eq_getElem?_getD, List.getD_eq_getElem?_getD, List.getElem?_eq_getElem hj, List.getElem?_eq_getElem hi] at e
  rcases Nat.lt_or_gt_of_ne hne with hl | hl
  · exact List.pairwise_iff_getElem.1 h i j hi hj hl e
  · exact List.pairwise_iff_getElem.1 h j i hj hi hl e.symm
/-- All keys are there. -/
theorem skip_all {M : SM} {K : Value → Prop} (h : M.Inv K) {k : ByteArray} {r : List ByteArray} (hk : k ∈ M.keys) : M.skip (k :: r) = k :: r := skip_here (keys_has h hk)

set_option maxRecDepth 10000 in
set_option maxHeartbeats 4000000 in
theorem lives_any (w : World) (hT : Tab w) : Calls Tryd.prog 10 #[] w fun e w' => e = .returned (.bool true) ∧ Below w.heap.size w w' := by
  have hw0 := hT.1
  have hnew := new_any_s 0 0 0 w (by omega) (by omega) (by decide)
  rw [show (needI 0).toNat = 1 by decide] at hnew
  have hix := fun W => index_three (.string ⟨#[97]⟩) (.string ⟨#[98]⟩) (.string ⟨#[99]⟩) W
  go_enter Tryd.func10, Tryd.ntmps10
  go_wp2_with fail
  refine hnew.mono ?_
  rintro e w1 ⟨b, bw0, bs0, rfl, hl0, g1, g2, g3, hb1⟩
  clear hnew
  go_wp2
  go_loopw [16] (fun t wr => ∃ (i bw bs : Nat), i ≤ 3 ∧ t = .int .i64 (i : Nat) ∧ Lies 81 77 wr b bw bs (liveM6 i) ∧ w.heap.size ≤ bw ∧ w.heap.size ≤ bs ∧ Below w.heap.size w wr) (fun t _ => 3 - (intOf t).toNat)
  case atStart => exact ⟨0, bw0, bs0, by omega, rfl, hl0, g2, g3, hb1⟩
  case round =>
    obtain ⟨i, bw, bs, hi, rfl, hl, q2, q3, hb⟩ := hrel
    have hTr := hT.below hb hw0
    have hzr := hb.size
    by_cases hlt : i < 3
    · have hput := put_any_s b bw bs (liveM6 i) (liveK6 i) (liveK6 i) wr hTr hl (sane_of_inv (live6_inv i)) (liveK6_size i)
      have hlm : ((liveM6 i).put (liveK6 i) (.string (liveK6 i)) (.string ⟨#[]⟩)).2.2 = liveM6 (i + 1) := rfl
      rw [hlm] at hput
      generalize ((liveM6 i).put (liveK6 i) (.string (liveK6 i)) (.string ⟨#[]⟩)).2.1 = er at *
      generalize ((liveM6 i).put (liveK6 i) (.string (liveK6 i)) (.string ⟨#[]⟩)).1 = is at *
      clear hlm
      obtain ⟨i1, i2, i3⟩ := hix wr
      obtain rfl | rfl | rfl : i = 0 ∨ i = 1 ∨ i = 2 := by omega
      all_goals
        rw [show liveK6 _ = ⟨#[_]⟩ from rfl] at hput
        go_wp2_with fail
        refine hput.mono ?_
        rintro e w2 ⟨rfl, bw', bs', hl2, hbut, h1, h2⟩
        have hB2 : Below w.heap.size w w2 := hb.trans (hbut.below (B := w.heap.size) (by simp; omega) (by omega))
        have g2' : w.heap.size ≤ bw' := by omega
        have g3' : w.heap.size ≤ bs' := by omega
        clear hput hl hbut h1 h2
        go_wp2
        go_roundw
        case rel => exact ⟨_, bw', bs', by decide, rfl, hl2, g2', g3', hB2⟩
        case measure => simp only [intOf]; decide
    · obtain rfl : i = 3 := by omega
      have hI := live6_inv 3
      have hl3 := live6_three
      have hnd : (liveM6 3).keys.Nodup := keys_nodup hI
      have hdead : deadM6 0 = liveM6 3 := rfl
      go_wp2_with fail
      refine (wnew_any_s b bw bs (liveM6 3) wr hTr hl hI).mono ?_
      rintro e w2 ⟨x, rfl, hW, hx1, hx2, hb2⟩
      have hB2 := hb.trans (hb2.mono hzr)
      have hl2 := hl.below hb2 (Nat.le_refl _)
      have hnx := wnext_any_s x b bw bs (liveM6 3) _ w2 (hT.below hB2 hw0) hl2 hI (fun k hk => keys_size hI hk) (by omega) hW
      obtain ⟨k0, r0, hkr⟩ : ∃ k0 r0, (liveM6 3).keys = k0 :: r0 := by
        cases hk : (liveM6 3).keys with
        | nil => rw [hk] at hl3; cases hl3
        | cons a r => exact ⟨a, r, rfl⟩
      have hsk : (liveM6 3).skip (liveM6 3).keys = k0 :: r0 := by rw [hkr]; exact skip_all hI (by rw [hkr]; exact List.mem_cons_self)
      rw [show (liveM6 3).nk (liveM6 3).keys = k0 by unfold SM.nk; rw [hsk]; rfl, show (liveM6 3).nb (liveM6 3).keys = true by unfold SM.nb; rw [hsk], hsk, List.tail_cons] at hnx
      generalize (liveM6 3).nv (liveM6 3).keys = v0 at hnx
      clear hsk hl hb hTr hb1 hl0
      have hx0 : ∃ vx, w2.heap[x]? = some (Obj.cells #[.pointer (some ⟨b, 0, none⟩), vx] 89 (0, 0)) := by
        obtain ⟨vx, h1, _⟩ := hW
        exact ⟨vx, h1⟩
      obtain ⟨vx, hx0⟩ := hx0
      go_wp2_with fail
      refine hnx.mono ?_
      rintro e w3 ⟨rfl, hW3, hb3⟩
      have hl3' := hl2.other (by decide) hx0 hb3
      have hB3 := hB2.trans (hb3.below (B := w.heap.size) (by simp; omega) (by omega))
      have hz3 := hB3.size
      clear hnx hW hl2 hb2 hb3 hx0
      have hfn := full_n hI
      have hkl := keys_len hI
      go_wp2_with fail
      refine (keys_any_s b bw bs (liveM6 3) w3 (hT.below hB3 hw0) hl3' hI.fit hfn).mono ?_
      rintro e w4 ⟨gc, rfl, hgc, oc, hb4⟩
      have hB4 : Below w.heap.size w w4 := hB3.trans (hb4.mono hz3)
      have hl4 := hl3'.below hb4 (Nat.le_refl _)
      have hW4 := hW3.below hb4
      have ta : RowT w4 (.slice (some ⟨gc, 0, none⟩) (liveM6 3).n (liveM6 3).n) (liveM6 3).keys := RowT.of_owns (B := 0) (by unfold OwnsT; rw [hkl]; exact oc)
      rw [← hkl, hl3] at ta ⊢
      clear hl3' hb4 oc hW3 hB3
      go_wp2
      go_loopw [35] (fun t wr => ∃ (j bw bs : Nat), j ≤ 3 ∧ t = .int .i64 (j : Nat) ∧ Lies 81 77 wr b bw bs (deadM6 j) ∧ w.heap.size ≤ bw ∧ w.heap.size ≤ bs ∧ Wk 89 wr x (.pointer (some ⟨b, 0, none⟩)) r0 ∧ RowT wr (.slice (some ⟨gc, 0, none⟩) 3 3) (liveM6 3).keys ∧ Below w.heap.size w wr) (fun t _ => 3 - (intOf t).toNat)
      case atStart => exact ⟨0, bw, bs, by omega, rfl, hl4, q2, q3, hW4, ta, hB4⟩
      case round =>
        obtain ⟨j, bw, bs, hj, rfl, hl, q2, q3, hWr, htr, hb⟩ := hrel
        clear hl4 hW4 ta hB4
        have hTr := hT.below hb hw0
        have hzr := hb.size
        by_cases hlt : j < 3
        · obtain ⟨_, _, hpp, hnc, hjl, ck⟩ := text_at htr.has (Below.refl _ _) (Nat.le_refl _) hlt
          cases hpp
          rw [Nat.zero_add] at ck
          by_cases h0 : j = 0
          · subst h0
            rw [hkr] at ck
            have ck' : wr.cell? ⟨gc, 0, none⟩ = some (.string k0) := ck
            have hd1 : deadM6 (0 + 1) = deadM6 0 := rfl
            clear ck
            go_wp2
            go_roundw
            case rel => exact ⟨1, bw, bs, by omega, rfl, hl, q2, q3, hWr, htr, hb⟩
            case measure => simp only [intOf]; omega
          · have hks := keys_size hI (getD_mem hjl)
            have hne : ¬ (liveM6 3).keys.getD j ByteArray.empty = k0 := by
              have := nodup_ne hnd hjl (j := 0) (by rw [hl3]; omega) h0
              rw [hkr] at this ⊢
              exact this
            have hdel := delete_any_s b bw bs (deadM6 j) ((liveM6 3).keys.getD j ByteArray.empty) wr hTr hl (sane_of_inv (dead6_inv j)) hks
            have hd1 : ((deadM6 j).del ((liveM6 3).keys.getD j ByteArray.empty) (.string ⟨#[]⟩)).2 = deadM6 (j + 1) := by rw [deadM6, if_neg h0]
            rw [hd1] at hdel
            clear hd1 hks
            generalize ((deadM6 j).del ((liveM6 3).keys.getD j ByteArray.empty) (.string ⟨#[]⟩)).1 = is at *
            generalize (liveM6 3).keys.getD j ByteArray.empty = kk at *
            have hne' := str_ne hne
            go_wp2_with fail
            refine hdel.mono ?_
            rintro e w5 ⟨rfl, hl5, hbut⟩
            have hk5 := Kinds.of hl hbut
            have hB5 : Below w.heap.size w w5 := hb.trans (hbut.below (B := w.heap.size) (by simp; omega) (by omega))
            have hW5 := hWr.kinds hk5 (by decide) (by decide)
            have ht5 := htr.kinds hk5 (by decide)
            clear hdel hbut hk5 hl hWr htr
            go_wp2
            go_roundw
            case rel => exact ⟨j + 1, bw, bs, by omega, by simp, hl5, q2, q3, hW5, ht5, hB5⟩
            case measure => simp only [intOf]; omega
        · obtain rfl : j = 3 := by omega
          have hI3 := dead6_inv 3
          obtain ⟨he1, he2⟩ := dead6_end
          have he3 : (deadM6 3).skip r0 = [] := by
            rw [hkr] at he1
            exact List.isEmpty_iff.1 he1
          have hnx := wnext_any_s x b bw bs (deadM6 3) r0 wr hTr hl hI3 (fun k hk => keys_size hI (by rw [hkr]; exact List.mem_cons_of_mem _ hk)) (by omega) hWr
          rw [show (deadM6 3).nb r0 = false by unfold SM.nb; rw [he3], he3] at hnx
          generalize (deadM6 3).nk r0 = k9 at hnx
          generalize (deadM6 3).nv r0 = v9 at hnx
          obtain ⟨vx, hx0, _⟩ := id hWr
          go_wp2_with fail
          refine hnx.mono ?_
          rintro e w5 ⟨rfl, hW5, hb5⟩
          have hl5 := hl.other (by decide) hx0 hb5
          have hB5 := hb.trans (hb5.below (B := w.heap.size) (by simp; omega) (by omega))
          have hlen := len_any_s b bw bs (deadM6 3) w5 hl5 hI3.fit
          rw [he2] at hlen
          clear hnx hb5 hl hWr htr hx0 hdead
          go_wp2_with fail
          refine same_mono hlen ?_
          go_wp2_with fail
          refine same_mono (left_any_s x _ _ w5 hW5) ?_
          go_wp2
          go_ret
          exact ⟨rfl, hB5⟩
end Go.Proofs.YtiobfdfmfgjpfaaDoor

/-
  The walk of corbellaw06.WalkActs.
-/
namespace Go.Proofs.YtiobfdfmfgjpfaaDoor
open Go.RowKit Go.Shelf

theorem slot_two {w : World} {x y : Value} {t : TypeId} : (w.alloc (.cells #[x, y] t)).cell? ⟨w.heap.size, 0, none⟩ = some x ∧ (w.alloc (.cells #[x, y] t)).cell? ⟨w.heap.size, 1, none⟩ = some y := by
  have hh := heap_alloc_new w (.cells #[x, y] t)
  constructor
  all_goals
    unfold World.cell?
    dsimp only
    rw [hh]
    rfl
theorem keepK {w w1 w2 : World} {x y : Value} (hb : Below w1.heap.size w1 w2) (h : w1.cell? ⟨w.heap.size, 0, none⟩ = some x ∧ w1.cell? ⟨w.heap.size, 1, none⟩ = some y ∧ Below w.heap.size w w1 ∧ w.heap.size < w1.heap.size) :
    w2.cell? ⟨w.heap.size, 0, none⟩ = some x ∧ w2.cell? ⟨w.heap.size, 1, none⟩ = some y ∧ Below w.heap.size w w2 ∧ w.heap.size < w2.heap.size := by
  obtain ⟨h0, h1, hw, hz⟩ := h
  exact ⟨(hb.cell (p := ⟨w.heap.size, 0, none⟩) hz).trans h0, (hb.cell (p := ⟨w.heap.size, 1, none⟩) hz).trans h1, hw.trans (hb.mono hw.size), Nat.lt_of_lt_of_le hz hb.size⟩
theorem holdK (w : World) (x y : Value) (t : TypeId) : (w.alloc (.cells #[x, y] t)).drew.cell? ⟨w.heap.size, 0, none⟩ = some x ∧ (w.alloc (.cells #[x, y] t)).drew.cell? ⟨w.heap.size, 1, none⟩ = some y ∧ Below w.heap.size w (w.alloc (.cells #[x, y] t)).drew ∧ w.heap.size < (w.alloc (.cells #[x, y] t)).drew.heap.size := by
  obtain ⟨h0, h1⟩ := slot_two (w := w) (x := x) (y := y) (t := t)
  exact ⟨h0, h1, ((Below.refl _ _).alloc (Nat.le_refl _) _).drew, by show w.heap.size < (w.alloc _).heap.size; simp⟩
theorem act3 {w : World} {k : Nat} {kd : Int} {ky vl : ByteArray} (hh : w.heap[k]? = some (.cells #[.int .i64 kd, .string ky, .string vl] 33 (0, 0))) : w.cell? ⟨k, 0, none⟩ = some (.int .i64 kd) ∧ w.cell? ⟨k, 1, none⟩ = some (.string ky) ∧ w.cell? ⟨k, 2, none⟩ = some (.string vl) := by
  refine ⟨?_, ?_, ?_⟩
  all_goals
    unfold World.cell?
    dsimp only
    rw [hh]
    rfl
theorem duo_new {w W u1 u : World} {c1 cw1 cs1 b bw bs g : Nat} {k0 k1 : Int} (hB0 : Below w.heap.size w W)
    (hl1 : Lies 81 77 u1 c1 cw1 cs1 (SM.empty k0 k1 (.string ⟨#[]⟩) g)) (hz : isGood (g : Int) = true) (f1 : W.heap.size ≤ c1) (f2 : W.heap.size ≤ cw1) (f3 : W.heap.size ≤ cs1) (hb1 : Below W.heap.size W u1)
    (hl : Lies 87 84 u b bw bs (SM.empty k0 k1 (.string ⟨#[]⟩) g)) (g1 : u1.heap.size ≤ b) (g2 : u1.heap.size ≤ bw) (g3 : u1.heap.size ≤ bs) (hb : Below u1.heap.size u1 u) :
    Duo w u c1 b (SM.empty k0 k1 (.string ⟨#[]⟩) g) (SM.empty k0 k1 (.string ⟨#[]⟩) g) := by
  obtain ⟨i1, _⟩ := inv_empty k0 k1 (.string ⟨#[]⟩) g hz (isV_string _)
  have hlt := hl1.lt
  have e1 := hB0.size
  have e2 := hb1.size
  refine ⟨⟨cw1, cs1, bw, bs, hl1.below hb (Nat.le_refl _), hl, ?_⟩, i1, i1, (hB0.trans (hb1.mono e1)).trans (hb.mono (by omega))⟩
  unfold Six6
  omega
/-- What the last region of a round looks at: a walk's cell, and all the rest. -/
theorem look_drew {w wr : World} {b c x y : Nat} {M : SM} {ks : List ByteArray} {v : Value} (h : wr.cell? ⟨y, 1, none⟩ = some v ∧ Trek w wr b c x y M M ks ks) : wr.drew.cell? ⟨y, 1, none⟩ = some v ∧ Trek w wr.drew b c x y M M ks ks := ⟨h.1, h.2.drew⟩
theorem look_left {w wr : World} {b c x y : Nat} {M : SM} {ks : List ByteArray} {v : Value} (h : wr.cell? ⟨y, 1, none⟩ = some v ∧ Trek w wr b c x y M M ks ks) : Calls Tryd.prog 19 #[.pointer (some ⟨x, 0, none⟩)] wr fun e w' => e = .returned (.int .i64 (ks.length : Nat)) ∧ w' = wr := left_any_s x _ ks wr h.2.2.1

set_option maxRecDepth 10000 in
set_option maxHeartbeats 8000000 in
theorem walkActs_any (k0 k1 : Int) (p : Option Addr) (n c : Nat) (xs : List Act') (hlen : xs.length = n) (p' : Option Addr) (n' c' : Nat) (xs' : List Act') (hlen' : xs'.length = n') (w : World) (hT : Tab w) (_hk0 : 0 ≤ k0 ∧ k0 ≤ 18446744073709551615) (_hk1 : 0 ≤ k1 ∧ k1 ≤ 18446744073709551615) (hX : HasA w (.slice p n c) xs) (hn : (n : Int) ≤ 9223372036854775807) (hX' : HasA w (.slice p' n' c') xs') (hn' : (n' : Int) ≤ 9223372036854775807) :
    Calls Tryd.prog 3 #[.agg #[.int .u64 k0, .int .u64 k1], .slice p n c, .slice p' n' c'] w fun e w' => e = .returned (.bool true) ∧ Below w.heap.size w w' := by
  have hw0 := hT.1
  have hlives := fun (W : World) (hW : Below w.heap.size w W) => lives_any W (hT.below hW hw0)
  have s0 := holdK w (.int .u64 k0) (.int .u64 k1) 24
  have hnd : needI 0 ≠ 0 := by decide
  have hng : (needI 0).toNat = 1 := by decide
  have hgt : isGood ((1 : Nat) : Int) = true := by decide
  go_enter Tryd.func3, Tryd.ntmps3
  go_wp2_with fail
  go_region_held3 (fun w' => w'.cell? ⟨w.heap.size, 0, none⟩ = some (.int .u64 k0) ∧ w'.cell? ⟨w.heap.size, 1, none⟩ = some (.int .u64 k1) ∧ Below w.heap.size w w' ∧ w.heap.size < w'.heap.size)
    (first | exact s0 | exact keepK (by assumption) (by assumption))
    (first
      | (go_at_call 7; refine (new_any_s k0 k1 0 _ (by omega) (by omega) hnd).mono ?_; rintro e w1 ⟨b, bw, bs, rfl, hl1, g1, g2, g3, hb1⟩)
      | (go_at_call 8; refine (rnew_any k0 k1 0 _ (by omega) (by omega) (by omega) hnd).mono ?_; rintro e w2 ⟨c2, cw, cs, rfl, hl2, f1, f2, f3, hb2⟩))
  rw [hng] at hl1 hl2
  have hp := duo_new s0.2.2.1 hl1 hgt g1 g2 g3 hb1 hl2 f1 f2 f3 hb2
  have hM0 : (SM.empty k0 k1 (.string ⟨#[]⟩) 1).n = 0 := rfl
  clear hl1 hl2 g1 g2 g3 f1 f2 f3 hb1 hb2 hgt s0 hnd hng
  generalize SM.empty k0 k1 (.string ⟨#[]⟩) 1 = M0 at *
  go_wp2_with fail
  refine (few_any p n c xs hlen w2 (hX.below hp.bel (Nat.le_refl _)) hn).mono ?_
  rintro e w3 ⟨r1, rfl, hr1, hb3⟩
  replace hp := hp.below hb3
  clear hb3
  cases r1 with
  | false =>
    go_wp2_with fail
    refine (hlives w3 hp.bel).mono ?_
    rintro e w4 ⟨rfl, hb4⟩
    go_wp2
    go_ret
    exact ⟨rfl, hp.bel.trans (hb4.mono hp.bel.size)⟩
  | true =>
    have hf1 := few_len (hr1 rfl)
    rw [hlen] at hf1
    clear hr1 hlen
    go_wp2_with fail
    refine (few_any p' n' c' xs' hlen' w3 (hX'.below hp.bel (Nat.le_refl _)) hn').mono ?_
    rintro e w4 ⟨r2, rfl, hr2, hb4⟩
    replace hp := hp.below hb4
    clear hb4
    cases r2 with
    | false =>
      go_wp2_with fail
      refine (hlives w4 hp.bel).mono ?_
      rintro e w5 ⟨rfl, hb5⟩
      go_wp2
      go_ret
      exact ⟨rfl, hp.bel.trans (hb5.mono hp.bel.size)⟩
    | true =>
      have hf2 := few_len (hr2 rfl)
      rw [hlen'] at hf2
      clear hr2 hlen'
      go_wp2
      go_loopw [47] (fun t wr => ∃ (j : Nat) (M : SM), j ≤ n ∧ t = .int .i64 (j : Nat) ∧ M.n ≤ j ∧ Duo w wr b c2 M M) (fun t _ => n - (intOf t).toNat)
      case atStart => exact ⟨0, M0, by omega, rfl, by omega, hp⟩
      case round =>
        obtain ⟨j, M, hj, rfl, hnj, hp⟩ := hrel
        by_cases hlt : j < n
        · obtain ⟨bb, oo, rfl, hbb, hcc, d1, d2, d3, z1, z2⟩ := act_at hX hp.bel hlt
          generalize xs.getD j default = act at *
          obtain ⟨kd, ky, vl⟩ := act
          dsimp only at d1 d2 d3 z1 z2
          have hA := heap_alloc_new wr (.cells #[.int .i64 kd, .string ky, .string vl] 33)
          obtain ⟨a0, a1, a2⟩ := act3 hA
          have ha := hp.below ((Below.refl _ wr).alloc (Nat.le_refl _) (.cells #[.int .i64 kd, .string ky, .string vl] 33))
          clear hp
          obtain ⟨_, _, _, i4⟩ := inv_put ha.2.1 (key := ky) (v := .string vl) (z := (.string ⟨#[]⟩)) (isV_string _) (isV_string _) (by omega)
          obtain ⟨_, _, i7, _⟩ := i4 (by omega)
          have hn' : (M.put ky (.string vl) (.string ⟨#[]⟩)).2.2.n ≤ j + 1 := by rw [i7]; split <;> omega
          clear i4 i7
          go_wp2_with fail
          generalize wr.alloc (.cells #[.int .i64 kd, .string ky, .string vl] 33) = Wa at *
          generalize wr.heap.size = ab at *
          refine (ha.putL hT ky vl (by omega)).mono ?_
          rintro e w5 ⟨rfl, h5, q5⟩
          have hA5 := q5 _ _ _ _ (by decide) hA
          obtain ⟨_, a1', a2'⟩ := act3 hA5
          clear ha q5 a0 a1 a2 d1 d2 d3
          go_wp2_with fail
          refine (h5.putR ky vl hw0 (by omega)).mono ?_
          rintro e w6 ⟨rfl, h6, q6⟩
          clear h5 q6 a1' a2' hA5 hA
          generalize (M.put ky (.string vl) (.string ⟨#[]⟩)).2.2 = M' at *
          generalize (M.put ky (.string vl) (.string ⟨#[]⟩)).2.1 = er at *
          generalize (M.put ky (.string vl) (.string ⟨#[]⟩)).1 = is at *
          go_wp2
          go_roundw
          case rel => exact ⟨j + 1, M', by omega, by simp, hn', h6⟩
          case measure => simp only [intOf]; omega
        · obtain rfl : n = j := by omega
          clear hlt hj hX
          go_wp2_with fail
          refine (hp.walkL hT).mono ?_
          rintro e w5 ⟨x, rfl, h5, hx, hxw⟩
          clear hp
          go_wp2_with fail
          refine (h5.walkR hx hxw).mono ?_
          rintro e w6 ⟨y, rfl, ht⟩
          clear h5 hx hxw
          go_wp2
          go_loopw [70] (fun t wr => ∃ (j : Nat) (M : SM) (ks : List ByteArray), j ≤ n' ∧ t = .int .i64 (j : Nat) ∧ M.n ≤ n + j ∧ Trek w wr b c2 x y M M ks ks) (fun t _ => n' - (intOf t).toNat)
          case atStart => exact ⟨0, M, M.keys, by omega, rfl, by omega, ht⟩
          case round =>
            obtain ⟨j, M, ks, hj, rfl, hnj, ht⟩ := hrel
            by_cases hlt : j < n'
            · obtain ⟨bb, oo, rfl, hbb, hcc, d1, d2, d3, z1, z2⟩ := act_at hX' ht.bel hlt
              generalize xs'.getD j default = act at *
              obtain ⟨kd, ky, vl⟩ := act
              dsimp only at d1 d2 d3 z1 z2
              have hA := heap_alloc_new wr (.cells #[.int .i64 kd, .string ky, .string vl] 33)
              obtain ⟨a0, a1, a2⟩ := act3 hA
              have ha := ht.below ((Below.refl _ wr).alloc (Nat.le_refl _) (.cells #[.int .i64 kd, .string ky, .string vl] 33))
              clear ht
              by_cases hk0 : kd = 0
              · subst hk0
                obtain ⟨_, _, _, i4⟩ := inv_put ha.1.2.1 (key := ky) (v := .string vl) (z := (.string ⟨#[]⟩)) (isV_string _) (isV_string _) (by omega)
                obtain ⟨_, _, i7, _⟩ := i4 (by omega)
                have hn' : (M.put ky (.string vl) (.string ⟨#[]⟩)).2.2.n ≤ n + (j + 1) := by rw [i7]; split <;> omega
                clear i4 i7
                go_wp2_with fail
                generalize wr.alloc (.cells #[.int .i64 0, .string ky, .string vl] 33) = Wa at *
                generalize wr.heap.size = ab at *
                refine (ha.putL hT ky vl (by omega)).mono ?_
                rintro e w7 ⟨rfl, h7, q7⟩
                have hA7 := q7 _ _ _ _ (by decide) hA
                obtain ⟨_, a1', a2'⟩ := act3 hA7
                clear ha q7 a0 a1 a2 d1 d2 d3
                go_wp2_with fail
                refine (h7.putR ky vl hw0 (by omega)).mono ?_
                rintro e w8 ⟨rfl, h8, q8⟩
                clear h7 q8 a1' a2' hA7 hA
                generalize (M.put ky (.string vl) (.string ⟨#[]⟩)).2.2 = M' at *
                generalize (M.put ky (.string vl) (.string ⟨#[]⟩)).2.1 = er at *
                generalize (M.put ky (.string vl) (.string ⟨#[]⟩)).1 = is at *
                obtain ⟨v, _, cy, _, ⟨pp, cp, rfl, _⟩, _⟩ := h8.2.2.1.cells
                go_wp2_with fail
                have s1 := look_drew ⟨cy, h8⟩
                go_region_held3 (fun w' => w'.cell? ⟨y, 1, none⟩ = some (.slice pp ks.length cp) ∧ Trek w w' b c2 x y M' M' ks ks)
                  (first | exact s1 | assumption)
                  (first | (go_at_call 19; refine same_mono (look_left (by assumption)) ?_))
                go_wp2
                go_roundw
                case rel => exact ⟨j + 1, M', ks, by omega, by simp, hn', s1.2⟩
                case measure => simp only [intOf]; omega
              · by_cases hk1 : kd = 1
                · subst hk1
                  obtain ⟨_, _, _, _, _, i6, _⟩ := inv_del ha.1.2.1 (key := ky) (z := (.string ⟨#[]⟩)) (isV_string _)
                  have hn' : (M.del ky (.string ⟨#[]⟩)).2.n ≤ n + (j + 1) := by omega
                  clear i6
                  go_wp2_with fail
                  generalize wr.alloc (.cells #[.int .i64 1, .string ky, .string vl] 33) = Wa at *
                  generalize wr.heap.size = ab at *
                  refine (ha.delL hT ky (by omega)).mono ?_
                  rintro e w7 ⟨rfl, h7, q7⟩
                  have hA7 := q7 _ _ _ _ (by decide) hA
                  obtain ⟨_, a1', _⟩ := act3 hA7
                  clear ha q7 a0 a1 a2 d1 d2 d3
                  go_wp2_with fail
                  refine (h7.delR ky (by omega)).mono ?_
                  rintro e w8 ⟨rfl, h8, q8⟩
                  clear h7 q8 a1' hA7 hA
                  generalize (M.del ky (.string ⟨#[]⟩)).2 = M' at *
                  generalize (M.del ky (.string ⟨#[]⟩)).1 = is at *
                  obtain ⟨v, _, cy, _, ⟨pp, cp, rfl, _⟩, _⟩ := h8.2.2.1.cells
                  go_wp2_with fail
                  have s1 := look_drew ⟨cy, h8⟩
                  go_region_held3 (fun w' => w'.cell? ⟨y, 1, none⟩ = some (.slice pp ks.length cp) ∧ Trek w w' b c2 x y M' M' ks ks)
                    (first | exact s1 | assumption)
                    (first | (go_at_call 19; refine same_mono (look_left (by assumption)) ?_))
                  go_wp2
                  go_roundw
                  case rel => exact ⟨j + 1, M', ks, by omega, by simp, hn', s1.2⟩
                  case measure => simp only [intOf]; omega
                · by_cases hk2 : kd = 2
                  · subst hk2
                    go_wp2_with fail
                    generalize wr.alloc (.cells #[.int .i64 2, .string ky, .string vl] 33) = Wa at *
                    generalize wr.heap.size = ab at *
                    refine (ha.nextL hT).mono ?_
                    rintro e w7 ⟨rfl, h7, q7⟩
                    clear ha q7 a0 a1 a2 d1 d2 d3 hA
                    go_wp2_with fail
                    refine h7.nextR.mono ?_
                    rintro e w8 ⟨rfl, h8, q8⟩
                    clear h7 q8
                    generalize (M.skip ks).tail = ks' at *
                    generalize M.nk ks = k8 at *
                    generalize M.nv ks = v8 at *
                    generalize M.nb ks = b8 at *
                    obtain ⟨v, _, cy, _, ⟨pp, cp, rfl, _⟩, _⟩ := h8.2.2.1.cells
                    go_wp2_with fail
                    have s1 := look_drew ⟨cy, h8⟩
                    go_region_held3 (fun w' => w'.cell? ⟨y, 1, none⟩ = some (.slice pp ks'.length cp) ∧ Trek w w' b c2 x y M M ks' ks')
                      (first | exact s1 | assumption)
                      (first | (go_at_call 19; refine same_mono (look_left (by assumption)) ?_))
                    go_wp2
                    go_roundw
                    case rel => exact ⟨j + 1, M, ks', by omega, by simp, by omega, s1.2⟩
                    case measure => simp only [intOf]; omega
                  · obtain ⟨v, _, cy, _, ⟨pp, cp, rfl, _⟩, _⟩ := ha.2.2.1.cells
                    go_wp2_with fail
                    generalize wr.alloc (.cells #[.int .i64 kd, .string ky, .string vl] 33) = Wa at *
                    have s1 := look_drew ⟨cy, ha⟩
                    go_region_held3 (fun w' => w'.cell? ⟨y, 1, none⟩ = some (.slice pp ks.length cp) ∧ Trek w w' b c2 x y M M ks ks)
                      (first | exact s1 | assumption)
                      (first | (go_at_call 19; refine same_mono (look_left (by assumption)) ?_))
                    go_wp2
                    go_roundw
                    case rel => exact ⟨j + 1, M, ks, by omega, by simp, by omega, s1.2⟩
                    case measure => simp only [intOf]; omega
            · go_wp2_with fail
              refine (hlives wr ht.bel).mono ?_
              rintro e w9 ⟨rfl, hb9⟩
              go_wp2
              go_ret
              exact ⟨rfl, ht.bel.trans (hb9.mono ht.bel.size)⟩
end Go.Proofs.YtiobfdfmfgjpfaaDoor
