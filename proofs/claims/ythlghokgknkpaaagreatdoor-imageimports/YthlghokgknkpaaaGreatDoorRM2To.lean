import Derived.Test.YthlghokgknkpaaaGreatDoorH4To
import Derived.Test.YthlghokgknkpaaaGreatDoorSip3To
import Derived.Test.YthlghokgknkpaaaGreatDoorRngTo
import Derived.Test.YthlghokgknkpaaaGreatDoorTriTo
import Derived.Deep.RegionWith
/-
  Contracts: corbelref03.Match, Free, Full.
-/
namespace Go.Proofs.YthlghokgknkpaaaGreatDoor
open Go.RowKit

theorem rget_at {i : Int} (n k : Nat) (hi : i = k) (hk : k < 8) (w : World) (hn : n < 18446744073709551616) : Calls Tryz.prog 75 #[.int .u64 n, .int .i64 i] w fun e w' => e = .returned (.int .u8 (byteN n k)) ∧ w' = w :=
  rget_any n i k (by omega) w hn
theorem st_same (j : Nat) (m : Nat → Nat) (e : m j = 0) : st (j + 1) m = st j m := by
  show st j m + m j * 2 ^ j = st j m
  rw [e, Nat.zero_mul, Nat.add_zero]

theorem pow_u8 (j : Nat) (hj : j < 8) : ((2 ^ j : Nat) : Int) = 2 ^ j % 256 := (by decide : ∀ j : Fin 8, ((2 ^ j.val : Nat) : Int) = 2 ^ j.val % 256) ⟨j, hj⟩

set_option maxHeartbeats 1000000 in
theorem rmatch_any (n h : Nat) (w : World) (hn : n < 18446744073709551616) : Calls Tryz.prog 43 #[.int .u64 n, .int .u8 h] w fun e w' => e = .returned (.int .u8 (matchN n h)) ∧ w' = w := by
  go_enter Tryz.func43, Tryz.ntmps43
  go_wp2
  go_loop [5, 6] (fun o t => ∃ j : Nat, j ≤ 8 ∧ t = .int .i64 j ∧ o = .int .u8 (st j (fun i => if byteN n i = h then 1 else 0) : Nat)) (fun _ t => 8 - (intOf t).toNat)
  case atStart => exact ⟨0, by decide, rfl, rfl⟩
  case round =>
    obtain ⟨j, hj, rfl, rfl⟩ := hrel
    by_cases hlt : j < 8
    · by_cases hx : byteN n j = h
      · have hs := st_or j (fun i => if byteN n i = h then 1 else 0) (fun _ => ite_lt2 _) (if_pos hx)
        have hl : st j (fun i => if byteN n i = h then 1 else 0) < 2 ^ j := st_lt j _ (fun _ => ite_lt2 _)
        have hp : 2 ^ j ≤ 128 := (by decide : ∀ j : Fin 8, 2 ^ j.val ≤ 128) ⟨j, hlt⟩
        have e1 := u8_or_nat (st j (fun i => if byteN n i = h then 1 else 0)) (2 ^ j) (by omega) (by omega)
        rw [hs, pow_u8 j hlt] at e1
        generalize st j (fun i => if byteN n i = h then 1 else 0) = o at *
        have e2 : Hid (bits .or .u8 (o : Int) (2 ^ j % 256) = (st (j + 1) (fun i => if byteN n i = h then 1 else 0) : Nat)) := e1
        clear e1 hs hl hp
        go_wp2_with fail
        refine same_mono (rget_at n j rfl hlt _ hn) ?_
        rw [hx]
        go_wp2
        refine ⟨⟨j + 1, by omega, rfl, by rw [e2.out]⟩, by simp only [intOf]; omega⟩
      · have hs := st_same j (fun i => if byteN n i = h then 1 else 0) (if_neg hx)
        go_wp2_with fail
        refine same_mono (rget_at n j rfl hlt _ hn) ?_
        have hx2 : (byteN n j : Int) ≠ h := by omega
        go_wp2
        refine ⟨⟨j + 1, by omega, rfl, by rw [hs]⟩, by simp only [intOf]; omega⟩
    · obtain rfl : j = 8 := by omega
      go_wp2
      go_ret
      exact ⟨rfl, rfl⟩

set_option maxHeartbeats 1000000 in
theorem rfree_any (n : Nat) (w : World) (hn : n < 18446744073709551616) : Calls Tryz.prog 77 #[.int .u64 n] w fun e w' => e = .returned (.int .u8 (freeN n)) ∧ w' = w := by
  have e1 := u8_or_nat _ _ (matchN_lt n 128) (matchN_lt n 254)
  rw [free_eq] at e1
  go_enter Tryz.func77, Tryz.ntmps77
  go_wp2_with fail
  refine same_mono (rmatch_any n 128 _ hn) ?_
  go_wp2_with fail
  refine same_mono (rmatch_any n 254 _ hn) ?_
  go_wp2
  go_ret
  exact ⟨rfl, rfl⟩
end Go.Proofs.YthlghokgknkpaaaGreatDoor

/-
  Contracts: corbelref03.First, Count.
-/
namespace Go.Proofs.YthlghokgknkpaaaGreatDoor
open Go.RowKit

theorem bit_u8 (m k : Nat) (hm : m < 256) : bits .and .u8 ((m : Int) / 2 ^ k) 1 = ((m / 2 ^ k % 2 : Nat) : Int) := by
  have e : ((m : Int) / 2 ^ k) = ((m / 2 ^ k : Nat) : Int) := by rw [Int.natCast_ediv, Int.natCast_pow]; rfl
  rw [e, show (1 : Int) = ((1 : Nat) : Int) from rfl, u8_and_nat _ 1 (Nat.lt_of_le_of_lt (Nat.div_le_self _ _) hm) (by decide), nat_mask1]

/-- The lowest slot, as the loop finds it. -/
theorem first_at : ∀ s : Fin 256, ∀ j : Fin 8, (∀ i : Fin 8, i.val < j.val → s.val / 2 ^ i.val % 2 = 0) → s.val / 2 ^ j.val % 2 = 1 → firstN s.val = j.val := by decide +kernel
theorem first_none : ∀ s : Fin 256, (∀ i : Fin 8, s.val / 2 ^ i.val % 2 = 0) → firstN s.val = 8 := by decide +kernel

set_option maxRecDepth 10000 in
set_option maxHeartbeats 1000000 in
theorem rfirst_any (s : Nat) (w : World) (hs : s < 256) : Calls Tryz.prog 76 #[.int .u8 s] w fun e w' => e = .returned (.int .i64 (firstN s : Nat)) ∧ w' = w := by
  go_enter Tryz.func76, Tryz.ntmps76
  go_wp2
  go_loop [3] (fun t => ∃ j : Nat, j ≤ 8 ∧ t = .int .i64 j ∧ Hid (∀ i : Fin 8, i.val < j → s / 2 ^ i.val % 2 = 0)) (fun t => 8 - (intOf t).toNat)
  case atStart => exact ⟨0, by decide, rfl, fun i hi => absurd hi (Nat.not_lt_zero _)⟩
  case round =>
    obtain ⟨j, hj, rfl, hz⟩ := hrel
    by_cases hlt : j < 8
    · have hb := bit_u8 s j hs
      by_cases hx : s / 2 ^ j % 2 = 1
      · have hf : Hid (firstN s = j) := first_at ⟨s, hs⟩ ⟨j, hlt⟩ hz.out hx
        rw [hx] at hb
        clear hx
        go_wp2
        go_ret
        refine ⟨?_, rfl⟩
        rw [hf.out]
        rfl
      · have hx0 : s / 2 ^ j % 2 = 0 := by omega
        rw [hx0] at hb
        have hz2 : Hid (∀ i : Fin 8, i.val < j + 1 → s / 2 ^ i.val % 2 = 0) := fun i hi => by
          by_cases e : i.val = j
          · rw [e]; exact hx0
          · exact hz.out i (by omega)
        clear hx hx0
        go_wp2
        refine ⟨⟨j + 1, by omega, rfl, hz2⟩, by simp only [intOf]; omega⟩
    · obtain rfl : j = 8 := by omega
      have hf : Hid (firstN s = 8) := first_none ⟨s, hs⟩ (fun i => hz.out i i.isLt)
      go_wp2
      go_ret
      refine ⟨?_, rfl⟩
      rw [hf.out]
      rfl

/-- How many there are below a slot. -/
def cntU (s j : Nat) : Nat := ((List.range j).filter fun i => s / 2 ^ i % 2 = 1).length
theorem cntU_succ (s j : Nat) : cntU s (j + 1) = cntU s j + s / 2 ^ j % 2 := by
  unfold cntU
  rw [List.range_succ, List.filter_append, List.length_append]
  congr 1
  by_cases h : s / 2 ^ j % 2 = 1
  · rw [h]; simp [h]
  · have : s / 2 ^ j % 2 = 0 := by omega
    rw [this]; simp [this]
theorem cntU_le (s j : Nat) : cntU s j ≤ j := by
  have := List.length_filter_le (fun i => decide (s / 2 ^ i % 2 = 1)) (List.range j)
  rw [List.length_range] at this
  exact this
end Go.Proofs.YthlghokgknkpaaaGreatDoor

/-
  Contracts: corbelref05's Find, Get.
-/
namespace Go.Proofs.YthlghokgknkpaaaGreatDoor
open Go.RowKit Go.Shelf

/-- A region whose every order ends in one way, but for the world. -/
def EndW (R : World → Prop) (A : Act) : Exit → Act → World → Prop
  | .normal, a, w => a = A ∧ R w
  | _, _, _ => False
theorem EndW.mk {R : World → Prop} {A : Act} {w : World} (h : R w) : EndW R A .normal A w := ⟨rfl, h⟩
theorem world_end {P : Program} {id : Nat} {ops : Array Oper} {b : Bool} {Q : Exit → Act → World → Prop} {a : Act} {w : World} (R : World → Prop) {A : Act}
    (h : (Code.region id ops b).wp P (EndW R A) a w) (k : ∀ W, R W → Q .normal A W) : (Code.region id ops b).wp P Q a w :=
  Code.wp_mono (fun e a w h => by cases e <;> first | (obtain ⟨rfl, hr⟩ := h; exact k w hr) | exact h.elim) h
theorem below_on {w W : World} (h : Below w.drew.heap.size w.drew W) : Below w.heap.size w W := ⟨h.os, h.tape, h.output, h.size, h.block⟩

/-- The hash, parted: where to look, and what stands there. -/
theorem rhash_at (M : SM) (key : ByteArray) (hF : M.Fit) (hk : key.size < 140737488355328) : ∃ X H : Int, 0 ≤ H ∧ H < 18446744073709551616 ∧ grpL H M.ws.length = (M.gs key).map (fun g : Nat => (g : Int)) ∧
    (∀ w, Calls Tryz.prog 73 #[.int .u64 M.k0, .int .u64 M.k1, .string key] w fun e w' => e = .returned (.int .u64 X) ∧ Below w.heap.size w w') ∧
    (∀ w, Calls Tryz.prog 72 #[.int .u64 X] w fun e w' => e = .returned (.tuple #[.int .u64 H, .int .u8 (M.what key : Nat)]) ∧ w' = w) := by
  have hw := M.wd_hash key
  refine ⟨M.hash key, M.hash key / 128, ?_, ?_, M.gs_eq hF key, fun w => rsum_any M.k0 M.k1 key w hk, fun w => ?_⟩
  · have := hw.1
    generalize M.hash key = x at *
    omega
  · have := hw.2
    generalize M.hash key = x at *
    omega
  · have := rsplit_any (M.hash key) w hw
    unfold partsV at this
    rw [← M.what_eq key] at this
    exact this
theorem find_from {f : Nat → Bool} : ∀ (n i : Nat), i < n → (∀ j, j < i → f j = false) → f i = true → (List.range n).find? f = some i := by
  intro n i hi hn hf
  exact List.find?_range_eq_some.2 ⟨hf, List.mem_range.2 hi, fun j hj => by rw [hn j hj]; rfl⟩
theorem hit_at {M : SM} {key : ByteArray} {g i : Nat} (hi : i < 8) (h : byteN (M.w g) i = M.what key ∧ (M.s (8 * g + i)).1 = key) (hn : ∀ j, j < i → ¬ (byteN (M.w g) j = M.what key ∧ (M.s (8 * g + j)).1 = key)) : M.hit key g = some i :=
  find_from 8 i hi (fun j hj => decide_eq_false (hn j hj)) (decide_eq_true h)
theorem hit_no {M : SM} {key : ByteArray} {g : Nat} (hn : ∀ j, j < 8 → ¬ (byteN (M.w g) j = M.what key ∧ (M.s (8 * g + j)).1 = key)) : M.hit key g = none := by
  unfold SM.hit
  rw [List.find?_eq_none]
  intro a ha
  simpa using hn a (List.mem_range.1 ha)
theorem drop_getD {gs : List Nat} {j : Nat} (hj : j < gs.length) : gs.drop j = gs.getD j 0 :: gs.drop (j + 1) := by
  rw [List.drop_eq_getElem_cons hj, List.getD_eq_getElem?_getD, List.getElem?_eq_getElem hj]
  rfl
theorem int_at {w : World} {p : Option Addr} {c n : Nat} {gs : List Nat} (h : HasI w (.slice p n c) (gs.map fun g : Nat => (g : Int))) {j : Nat} (hj : j < gs.length) : ∃ bb oo, p = some ⟨bb, oo, none⟩ ∧ n ≤ c ∧ w.cell? ⟨bb, oo + j, none⟩ = some (.int .i64 ((gs.getD j 0 : Nat) : Int)) := by
  obtain ⟨p', c', hpv, hcc, _, hcell⟩ := h
  simp only [Value.slice.injEq] at hpv
  obtain ⟨rfl, hnn, rfl⟩ := hpv
  rw [List.length_map] at hnn hcc hcell
  obtain ⟨bb, oo, rfl, hbb, hcell⟩ := hcell (by omega)
  refine ⟨bb, oo, rfl, by omega, ?_⟩
  rw [hcell j hj]
  simp [List.getD_eq_getElem?_getD, List.getElem?_eq_getElem hj]

set_option maxRecDepth 100000 in
set_option maxHeartbeats 4000000 in
theorem rfind_any (b bw bs : Nat) (M : SM) (key : ByteArray) (w : World) (h : Lies 63 76 w b bw bs M) (hF : M.Fit) (hk : key.size < 140737488355328) :
    Calls Tryz.prog 38 #[.pointer (some ⟨b, 0, none⟩), .string key] w fun e w' => e = .returned (.int .i64 (match M.find key with | some p => (p : Int) | none => -1)) ∧ Below w.heap.size w w' := by
  obtain ⟨cw, cs, c0, c1, c2, c3, c4, c5, hcw, hcs⟩ := h.cells
  have hr := good_range hF.good
  obtain ⟨X, H, hH0, hH1, hgs, hsum, hsplit⟩ := rhash_at M key hF hk
  obtain ⟨r, hres⟩ : ∃ r : Int, Hid ((match M.find key with | some p => (p : Int) | none => -1) = r) := ⟨_, rfl⟩
  rw [hres.out]
  have hwhat := M.what_lt key
  go_enter Tryz.func38, Tryz.ntmps38
  go_wp2_with fail
  apply world_end (fun Y => Below w.heap.size w Y)
  · go_region_with (first
      | (go_at_call 73; refine (hsum _).mono ?_; rintro e w1 ⟨rfl, hb1⟩)
      | (go_at_call 72; refine same_mono (hsplit _) ?_))
    all_goals exact EndW.mk (below_on hb1)
  · intro w1 hb1
    clear hsum hsplit
    have hl1 := h.below hb1 (Nat.le_refl _)
    obtain ⟨cw', cs', _, _, d2, d3, _, _, hcw', hcs'⟩ := hl1.cells
    go_wp2_with fail
    refine (rseq_any H M.ws.length w1 hH0 hH1 (by omega) (by omega)).mono ?_
    rintro e w2 ⟨v, rfl, hown, hb2⟩
    have hB2 : Below w.heap.size w w2 := hb1.trans (hb2.mono hb1.size)
    have hl2 := h.below hB2 (Nat.le_refl _)
    obtain ⟨cw2, cs2, _, _, f2, f3, _, _, hcw2, hcs2⟩ := hl2.cells
    rw [hgs] at hown
    have hrow := hown.has
    obtain ⟨p, c, hv, hpc, _, _⟩ := id hrow
    rw [List.length_map] at hv hpc
    subst hv
    clear c0 c1 c2 c3 c4 c5 d2 d3 hl1 hown hb2 hgs hH0 hH1 hcw' hcs' hcw hcs
    have hfind : Hid (M.find key = M.findG key ((M.gs key).drop 0)) := by show _ = _; rw [List.drop_zero]; rfl
    have hgl := SM.gs_lt hF key
    have hgn : (M.gs key).length ≤ 1024 := by unfold SM.gs; rw [List.length_map]; exact grp_len _ _
    generalize M.gs key = gs at *
    go_wp2
    go_loopw [32] (fun t wr => ∃ j : Nat, j ≤ gs.length ∧ t = .int .i64 (j : Nat) ∧ Hid (M.find key = M.findG key (gs.drop j)) ∧ wr = w2) (fun t _ => gs.length - (intOf t).toNat)
    case atStart => exact ⟨0, by omega, rfl, hfind, rfl⟩
    case round =>
      obtain ⟨j, hj, rfl, hfj, rfl⟩ := hrel
      clear hfind
      by_cases hlt : j < gs.length
      · obtain ⟨pb, po, rfl, _, cg⟩ := int_at hrow hlt
        have hdrop : Hid (gs.drop j = gs.getD j 0 :: gs.drop (j + 1)) := drop_getD hlt
        have hg := hgl (gs.getD j 0) (by rw [List.getD_eq_getElem?_getD, List.getElem?_eq_getElem hlt]; exact List.getElem_mem hlt)
        generalize gs.getD j 0 = g at *
        have kw := hl2.word g hg
        have hwl := hF.words g hg
        have hkey : ∀ i, i < 8 → wr.cell? ⟨bs, (8 * g + i) * 2, none⟩ = some (.string (M.s (8 * g + i)).1) := fun i hi => hl2.key _ (by rw [hF.slots]; omega)
        have hssl := hF.slots
        have hwd0 : Hid (M.w g = M.w g) := rfl
        generalize hwd : M.w g = wd at *
        replace hwd : Hid (M.w g = wd) := hwd
        go_wp2
        go_loopw [9] (fun t wr' => ∃ i : Nat, i ≤ 8 ∧ t = .int .i64 (i : Nat) ∧ Hid (∀ i', i' < i → ¬ (byteN wd i' = M.what key ∧ (M.s (8 * g + i')).1 = key)) ∧ wr' = wr) (fun t _ => 8 - (intOf t).toNat)
        case atStart => exact ⟨0, by omega, rfl, fun i' hi' => by omega, rfl⟩
        case round =>
          obtain ⟨i, hi, rfl, hno, rfl⟩ := hrel
          by_cases hi8 : i < 8
          · have ck := hkey i hi8
            have hpp : Hid ((8 : Int) * (g : Int) + (i : Int) = ((8 * g + i : Nat) : Int)) := by show _ = _; omega
            have hpl : 8 * g + i < M.ss.length := by omega
            have hnext : (¬ (byteN wd i = M.what key ∧ (M.s (8 * g + i)).1 = key)) → Hid (∀ i', i' < i + 1 → ¬ (byteN wd i' = M.what key ∧ (M.s (8 * g + i')).1 = key)) := fun hn i' hi' => by
              by_cases e : i' = i
              · subst e; exact hn
              · exact hno.out i' (by omega)
            by_cases h1 : byteN wd i = M.what key
            · by_cases h2 : (M.s (8 * g + i)).1 = key
              · have hr1 : Hid (r = ((8 * g + i : Nat) : Int)) := by
                  show r = _
                  rw [← hres.out, hfj.out, hdrop.out, SM.findG, hit_at hi8 (by rw [hwd.out]; exact ⟨h1, h2⟩) (by rw [hwd.out]; exact hno.out)]
                rw [h2] at ck
                go_wp2_with fail
                refine same_mono (rget_at wd i rfl hi8 _ hwl) ?_
                rw [h1]
                go_wp2
                go_ret
                exact ⟨by rw [hr1.out]; exact congrArg (fun z => Ending.returned (.int .i64 z)) hpp.out, hB2⟩
              · have hn' := hnext (fun hh => h2 hh.2)
                have hdf := str_ne h2
                clear hnext hkey
                generalize (M.s (8 * g + i)).1 = other at *
                go_wp2_with fail
                refine same_mono (rget_at wd i rfl hi8 _ hwl) ?_
                rw [h1]
                go_wp2
                go_roundw
                case rel => exact ⟨i + 1, by omega, by simp, hn', trivial⟩
                case measure => simp only [intOf]; omega
            · have hn' := hnext (fun hh => h1 hh.1)
              have hdf : ((byteN wd i : Int) == (M.what key : Int)) = false := by simp; omega
              clear hnext
              go_wp2_with fail
              refine same_mono (rget_at wd i rfl hi8 _ hwl) ?_
              go_wp2
              go_roundw
              case rel => exact ⟨i + 1, by omega, by simp, hn', trivial⟩
              case measure => simp only [intOf]; omega
          · obtain rfl : i = 8 := by omega
            have hnone : Hid (M.hit key g = none) := hit_no (by rw [hwd.out]; exact hno.out)
            have hE : Hid (hasE wd = !decide (matchN wd 128 = 0)) := hasE_match _
            have hm8 := matchN_lt wd 128
            clear hno hkey
            by_cases hem : matchN wd 128 = 0
            · have hf' : Hid (M.find key = M.findG key (gs.drop (j + 1))) := by
                show _ = _
                rw [hfj.out, hdrop.out, SM.findG, hnone.out, hwd.out, hE.out, hem]
                rfl
              go_wp2_with fail
              refine same_mono (rmatch_any wd 128 _ hwl) ?_
              rw [hem]
              go_wp2
              go_roundw
              case rel => exact ⟨j + 1, by omega, by simp, hf', trivial⟩
              case measure => simp only [intOf]; omega
            · have hr1 : Hid (r = -1) := by
                show r = -1
                rw [← hres.out, hfj.out, hdrop.out, SM.findG, hnone.out, hwd.out, hE.out, decide_eq_false hem]
                rfl
              have hem' : ((matchN wd 128 : Int) != 0) = true := by simp; omega
              go_wp2_with fail
              refine same_mono (rmatch_any wd 128 _ hwl) ?_
              go_wp2
              go_ret
              exact ⟨by rw [hr1.out]; rfl, hB2⟩
      · have hr1 : Hid (r = -1) := by
          show r = -1
          rw [← hres.out, hfj.out, List.drop_eq_nil_of_le (by omega), SM.findG]
        go_wp2
        go_ret
        exact ⟨by rw [hr1.out]; rfl, hB2⟩
end Go.Proofs.YthlghokgknkpaaaGreatDoor
