import Derived.Test.YtiobfdfmfgjpfaaDoorHeldtTo
import Derived.Test.YtiobfdfmfgjpfaaDoorQ5To
import Derived.Test.YtiobfdfmfgjpfaaDoorP1To
import Derived.Test.YtiobfdfmfgjpfaaDoorH6To
import Derived.Test.YtiobfdfmfgjpfaaDoorSwQTo
import Derived.Deep.RegionWith
import Derived.Test.YtiobfdfmfgjpfaaDoorSwMpTo
import Derived.Test.YtiobfdfmfgjpfaaDoorSwB3To
/-
  Contracts: corbelref05's Find, Get.
-/
namespace Go.Proofs.YtiobfdfmfgjpfaaDoor
open Go.RowKit Go.Shelf

/-- A region whose every order ends in one way, but for the world. -/
def EndW (R : World → Prop) (A : Act) : Exit → Act → World → Prop
  | .normal, a, w => a = A ∧ R w
  | _, _, _ => False
theorem EndW.mk {R : World → Prop} {A : Act} {w : World} (h : R w) : EndW R A .normal A w := ⟨rfl, h⟩
theorem world_end {P : Program} {id : Nat} {ops : Array Oper} {b : Bool} {Q : Exit → Act → World → Prop} {a : Act} {w : World} (R : World → Prop) {A : Act}
    (h : (Code.region id ops b).wp P (EndW R A) a w) (k : ∀ W, R W → Q .normal A W) : (Code.region id ops b).wp P Q a w :=
  Code.wp_mono (fun e a w h => by cases e <;> first | (obtain ⟨rfl, hr⟩ := h; exact k w hr) | exact h.elim) h
theorem below_on {w W : World} (h : Below w.drew.heap.size w.drew W) : Below w.heap.size w W := ⟨h.os, h.tape, h.output, h.size, h.block⟩

/-- The hash, parted: where to look, and what stands there. -/
theorem rhash_at (M : SM) (key : ByteArray) (hF : M.Fit) (hk : key.size < 140737488355328) : ∃ X H : Int, 0 ≤ H ∧ H < 18446744073709551616 ∧ grpL H M.ws.length = (M.gs key).map (fun g : Nat => (g : Int)) ∧
    (∀ w, Calls Tryd.prog 60 #[.int .u64 M.k0, .int .u64 M.k1, .string key] w fun e w' => e = .returned (.int .u64 X) ∧ Below w.heap.size w w') ∧
    (∀ w, Calls Tryd.prog 59 #[.int .u64 X] w fun e w' => e = .returned (.tuple #[.int .u64 H, .int .u8 (M.what key : Nat)]) ∧ w' = w) := by
  have hw := M.wd_hash key
  refine ⟨M.hash key, M.hash key / 128, ?_, ?_, M.gs_eq hF key, fun w => rsum_any M.k0 M.k1 key w hk, fun w => ?_⟩
  · have := hw.1
    generalize M.hash key = x at *
    omega
  · have := hw.2
    generalize M.hash key = x at *
    omega
  · have := rsplit_any (M.hash key) w hw
    unfold partsV at this
    rw [← M.what_eq key] at this
    exact this
theorem find_from {f : Nat → Bool} : ∀ (n i : Nat), i < n → (∀ j, j < i → f j = false) → f i = true → (List.range n).find? f = some i := by
  intro n i hi hn hf
  exact List.find?_range_eq_some.2 ⟨hf, List.mem_range.2 hi, fun j hj => by rw [hn j hj]; rfl⟩
theorem hit_at {M : SM} {key : ByteArray} {g i : Nat} (hi : i < 8) (h : byteN (M.w g) i = M.what key ∧ (M.s (8 * g + i)).1 = key) (hn : ∀ j, j < i → ¬ (byteN (M.w g) j = M.what key ∧ (M.s (8 * g + j)).1 = key)) : M.hit key g = some i :=
  find_from 8 i hi (fun j hj => decide_eq_false (hn j hj)) (decide_eq_true h)
theorem hit_no {M : SM} {key : ByteArray} {g : Nat} (hn : ∀ j, j < 8 → ¬ (byteN (M.w g) j = M.what key ∧ (M.s (8 * g + j)).1 = key)) : M.hit key g = none := by
  unfold SM.hit
  rw [List.find?_eq_none]
  intro a ha
  simpa using hn a (List.mem_range.1 ha)
theorem drop_getD {gs : List Nat} {j : Nat} (hj : j < gs.length) : gs.drop j = gs.getD j 0 :: gs.drop (j + 1) := by
  rw [List.drop_eq_getElem_cons hj, List.getD_eq_getElem?_getD, List.getElem?_eq_getElem hj]
  rfl
theorem int_at {w : World} {p : Option Addr} {c n : Nat} {gs : List Nat} (h : HasI w (.slice p n c) (gs.map fun g : Nat => (g : Int))) {j : Nat} (hj : j < gs.length) : ∃ bb oo, p = some ⟨bb, oo, none⟩ ∧ n ≤ c ∧ w.cell? ⟨bb, oo + j, none⟩ = some (.int .i64 ((gs.getD j 0 : Nat) : Int)) := by
  obtain ⟨p', c', hpv, hcc, _, hcell⟩ := h
  simp only [Value.slice.injEq] at hpv
  obtain ⟨rfl, hnn, rfl⟩ := hpv
  rw [List.length_map] at hnn hcc hcell
  obtain ⟨bb, oo, rfl, hbb, hcell⟩ := hcell (by omega)
  refine ⟨bb, oo, rfl, by omega, ?_⟩
  rw [hcell j hj]
  simp [List.getD_eq_getElem?_getD, List.getElem?_eq_getElem hj]

set_option maxRecDepth 100000 in
set_option maxHeartbeats 4000000 in
theorem rfind_any (b bw bs : Nat) (M : SM) (key : ByteArray) (w : World) (h : Lies 87 84 w b bw bs M) (hF : M.Fit) (hk : key.size < 140737488355328) :
    Calls Tryd.prog 37 #[.pointer (some ⟨b, 0, none⟩), .string key] w fun e w' => e = .returned (.int .i64 (match M.find key with | some p => (p : Int) | none => -1)) ∧ Below w.heap.size w w' := by
  obtain ⟨cw, cs, c0, c1, c2, c3, c4, c5, hcw, hcs⟩ := h.cells
  have hr := good_range hF.good
  obtain ⟨X, H, hH0, hH1, hgs, hsum, hsplit⟩ := rhash_at M key hF hk
  obtain ⟨r, hres⟩ : ∃ r : Int, Hid ((match M.find key with | some p => (p : Int) | none => -1) = r) := ⟨_, rfl⟩
  rw [hres.out]
  have hwhat := M.what_lt key
  go_enter Tryd.func37, Tryd.ntmps37
  go_wp2_with fail
  apply world_end (fun Y => Below w.heap.size w Y)
  · go_region_with (first
      | (go_at_call 60; refine (hsum _).mono ?_; rintro e w1 ⟨rfl, hb1⟩)
      | (go_at_call 59; refine same_mono (hsplit _) ?_))
    all_goals exact EndW.mk (below_on hb1)
  · intro w1 hb1
    clear hsum hsplit
    have hl1 := h.below hb1 (Nat.le_refl _)
    obtain ⟨cw', cs', _, _, d2, d3, _, _, hcw', hcs'⟩ := hl1.cells
    go_wp2_with fail
    refine (rseq_any H M.ws.length w1 hH0 hH1 (by omega) (by omega)).mono ?_
    rintro e w2 ⟨v, rfl, hown, hb2⟩
    have hB2 : Below w.heap.size w w2 := hb1.trans (hb2.mono hb1.size)
    have hl2 := h.below hB2 (Nat.le_refl _)
    obtain ⟨cw2, cs2, _, _, f2, f3, _, _, hcw2, hcs2⟩ := hl2.cells
    rw [hgs] at hown
    have hrow := hown.has
    obtain ⟨p, c, hv, hpc, _, _⟩ := id hrow
    rw [List.length_map] at hv hpc
    subst hv
    clear c0 c1 c2 c3 c4 c5 d2 d3 hl1 hown hb2 hgs hH0 hH1 hcw' hcs' hcw hcs
    have hfind : Hid (M.find key = M.findG key ((M.gs key).drop 0)) := by show _ = _; rw [List.drop_zero]; rfl
    have hgl := SM.gs_lt hF key
    have hgn : (M.gs key).length ≤ 1024 := by unfold SM.gs; rw [List.length_map]; exact grp_len _ _
    generalize M.gs key = gs at *
    go_wp2
    go_loopw [32] (fun t wr => ∃ j : Nat, j ≤ gs.length ∧ t = .int .i64 (j : Nat) ∧ Hid (M.find key = M.findG key (gs.drop j)) ∧ wr = w2) (fun t _ => gs.length - (intOf t).toNat)
    case atStart => exact ⟨0, by omega, rfl, hfind, rfl⟩
    case round =>
      obtain ⟨j, hj, rfl, hfj, rfl⟩ := hrel
      clear hfind
      by_cases hlt : j < gs.length
      · obtain ⟨pb, po, rfl, _, cg⟩ := int_at hrow hlt
        have hdrop : Hid (gs.drop j = gs.getD j 0 :: gs.drop (j + 1)) := drop_getD hlt
        have hg := hgl (gs.getD j 0) (by rw [List.getD_eq_getElem?_getD, List.getElem?_eq_getElem hlt]; exact List.getElem_mem hlt)
        generalize gs.getD j 0 = g at *
        have kw := hl2.word g hg
        have hwl := hF.words g hg
        have hkey : ∀ i, i < 8 → wr.cell? ⟨bs, (8 * g + i) * 2, none⟩ = some (.string (M.s (8 * g + i)).1) := fun i hi => hl2.key _ (by rw [hF.slots]; omega)
        have hssl := hF.slots
        have hwd0 : Hid (M.w g = M.w g) := rfl
        generalize hwd : M.w g = wd at *
        replace hwd : Hid (M.w g = wd) := hwd
        go_wp2
        go_loopw [9] (fun t wr' => ∃ i : Nat, i ≤ 8 ∧ t = .int .i64 (i : Nat) ∧ Hid (∀ i', i' < i → ¬ (byteN wd i' = M.what key ∧ (M.s (8 * g + i')).1 = key)) ∧ wr' = wr) (fun t _ => 8 - (intOf t).toNat)
        case atStart => exact ⟨0, by omega, rfl, fun i' hi' => by omega, rfl⟩
        case round =>
          obtain ⟨i, hi, rfl, hno, rfl⟩ := hrel
          by_cases hi8 : i < 8
          · have ck := hkey i hi8
            have hpp : Hid ((8 : Int) * (g : Int) + (i : Int) = ((8 * g + i : Nat) : Int)) := by show _ = _; omega
            have hpl : 8 * g + i < M.ss.length := by omega
            have hnext : (¬ (byteN wd i = M.what key ∧ (M.s (8 * g + i)).1 = key)) → Hid (∀ i', i' < i + 1 → ¬ (byteN wd i' = M.what key ∧ (M.s (8 * g + i')).1 = key)) := fun hn i' hi' => by
              by_cases e : i' = i
              · subst e; exact hn
              · exact hno.out i' (by omega)
            by_cases h1 : byteN wd i = M.what key
            · by_cases h2 : (M.s (8 * g + i)).1 = key
              · have hr1 : Hid (r = ((8 * g + i : Nat) : Int)) := by
                  show r = _
                  rw [← hres.out, hfj.out, hdrop.out, SM.findG, hit_at hi8 (by rw [hwd.out]; exact ⟨h1, h2⟩) (by rw [hwd.out]; exact hno.out)]
                rw [h2] at ck
                go_wp2_with fail
                refine same_mono (rget_at wd i rfl hi8 _ hwl) ?_
                rw [h1]
                go_wp2
                go_ret
                exact ⟨by rw [hr1.out]; exact congrArg (fun z => Ending.returned (.int .i64 z)) hpp.out, hB2⟩
              · have hn' := hnext (fun hh => h2 hh.2)
                have hdf := str_ne h2
                clear hnext hkey
                generalize (M.s (8 * g + i)).1 = other at *
                go_wp2_with fail
                refine same_mono (rget_at wd i rfl hi8 _ hwl) ?_
                rw [h1]
                go_wp2
                go_roundw
                case rel => exact ⟨i + 1, by omega, by simp, hn', trivial⟩
                case measure => simp only [intOf]; omega
            · have hn' := hnext (fun hh => h1 hh.1)
              have hdf : ((byteN wd i : Int) == (M.what key : Int)) = false := by simp; omega
              clear hnext
              go_wp2_with fail
              refine same_mono (rget_at wd i rfl hi8 _ hwl) ?_
              go_wp2
              go_roundw
              case rel => exact ⟨i + 1, by omega, by simp, hn', trivial⟩
              case measure => simp only [intOf]; omega
          · obtain rfl : i = 8 := by omega
            have hnone : Hid (M.hit key g = none) := hit_no (by rw [hwd.out]; exact hno.out)
            have hE : Hid (hasE wd = !decide (matchN wd 128 = 0)) := hasE_match _
            have hm8 := matchN_lt wd 128
            clear hno hkey
            by_cases hem : matchN wd 128 = 0
            · have hf' : Hid (M.find key = M.findG key (gs.drop (j + 1))) := by
                show _ = _
                rw [hfj.out, hdrop.out, SM.findG, hnone.out, hwd.out, hE.out, hem]
                rfl
              go_wp2_with fail
              refine same_mono (rmatch_any wd 128 _ hwl) ?_
              rw [hem]
              go_wp2
              go_roundw
              case rel => exact ⟨j + 1, by omega, by simp, hf', trivial⟩
              case measure => simp only [intOf]; omega
            · have hr1 : Hid (r = -1) := by
                show r = -1
                rw [← hres.out, hfj.out, hdrop.out, SM.findG, hnone.out, hwd.out, hE.out, decide_eq_false hem]
                rfl
              have hem' : ((matchN wd 128 : Int) != 0) = true := by simp; omega
              go_wp2_with fail
              refine same_mono (rmatch_any wd 128 _ hwl) ?_
              go_wp2
              go_ret
              exact ⟨by rw [hr1.out]; rfl, hB2⟩
      · have hr1 : Hid (r = -1) := by
          show r = -1
          rw [← hres.out, hfj.out, List.drop_eq_nil_of_le (by omega), SM.findG]
        go_wp2
        go_ret
        exact ⟨by rw [hr1.out]; rfl, hB2⟩
end Go.Proofs.YtiobfdfmfgjpfaaDoor

/-
  Contracts: corbelref05's Get, Keys.
-/
namespace Go.Proofs.YtiobfdfmfgjpfaaDoor
open Go.RowKit Go.Shelf

set_option maxHeartbeats 1000000 in
theorem rget_map (b bw bs : Nat) (M : SM) (key : ByteArray) (w : World) (h : Lies 87 84 w b bw bs M) (hF : M.Fit) (hV : M.Typed IsV_s) (hk : key.size < 140737488355328) :
    Calls Tryd.prog 45 #[.pointer (some ⟨b, 0, none⟩), .string key] w fun e w' => e = .returned (.tuple #[(M.get key (.string ⟨#[]⟩)).1, .bool (M.get key (.string ⟨#[]⟩)).2]) ∧ Below w.heap.size w w' := by
  have hfind := rfind_any b bw bs M key w h hF hk
  unfold SM.get
  cases hfd : M.find key with
  | some p =>
    obtain ⟨hp1, _, _, _⟩ := find_some hF hfd
    obtain ⟨x, hx⟩ := hV p hp1
    rw [hfd] at hfind
    simp only
    rw [hx]
    clear hfd
    go_enter Tryd.func45, Tryd.ntmps45
    go_wp2_with fail
    refine hfind.mono ?_
    rintro e w1 ⟨rfl, hb⟩
    have hl := h.below hb (Nat.le_refl _)
    obtain ⟨dw, ds, _, _, _, k3, _, _, _, hds⟩ := hl.cells
    have kv := hl.val p hp1
    rw [hx] at kv
    have hp2 : (p : Int) < M.ss.length := by omega
    have hp3 : ¬ (p : Int) < 0 := by omega
    clear hx hfind
    go_wp2
    go_ret2
    exact ⟨rfl, hb⟩
  | none =>
    rw [hfd] at hfind
    simp only
    clear hfd
    go_enter Tryd.func45, Tryd.ntmps45
    go_wp2_with fail
    refine hfind.mono ?_
    rintro e w1 ⟨rfl, hb⟩
    clear hfind
    go_wp2
    go_ret2
    exact ⟨rfl, hb⟩

/-- The keys of the first slots. -/
def SM.upto (M : SM) (j : Nat) : List ByteArray := ((List.range j).filter fun p => decide (byteN (M.w (p / 8)) (p % 8) < 128)).map fun p => (M.s p).1
theorem upto_full (M : SM) : M.upto (8 * M.ws.length) = M.keys := rfl
theorem upto_yes {M : SM} {g i : Nat} (hi : i < 8) (h : byteN (M.w g) i < 128) : M.upto (8 * g + i + 1) = M.upto (8 * g + i) ++ [(M.s (8 * g + i)).1] := by
  unfold SM.upto
  rw [List.range_succ, List.filter_append, List.map_append, List.filter_cons_of_pos]
  · rfl
  · rw [show (8 * g + i) / 8 = g by omega, show (8 * g + i) % 8 = i by omega]
    exact decide_eq_true h
theorem upto_no {M : SM} {g i : Nat} (hi : i < 8) (h : ¬ byteN (M.w g) i < 128) : M.upto (8 * g + i + 1) = M.upto (8 * g + i) := by
  unfold SM.upto
  rw [List.range_succ, List.filter_append, List.map_append, List.filter_cons_of_neg]
  · simp
  · rw [show (8 * g + i) / 8 = g by omega, show (8 * g + i) % 8 = i by omega, decide_eq_false h]
    simp
theorem upto_len (M : SM) (j : Nat) : (M.upto j).length ≤ j := by
  unfold SM.upto
  rw [List.length_map]
  exact Nat.le_trans (List.length_filter_le _ _) (by simp)

set_option maxRecDepth 10000 in
set_option maxHeartbeats 2000000 in
theorem rkeys_any (b bw bs : Nat) (M : SM) (w : World) (h : Lies 87 84 w b bw bs M) (hF : M.Fit) :
    Calls Tryd.prog 40 #[.pointer (some ⟨b, 0, none⟩)] w fun e w' => ∃ v, e = .returned v ∧ OwnsT w' w.heap.size v M.keys ∧ Below w.heap.size w w' := by
  obtain ⟨cw, cs, c0, c1, c2, c3, c4, c5, hcw, hcs⟩ := h.cells
  have hr := good_range hF.good
  have hssl := hF.slots
  go_enter Tryd.func40, Tryd.ntmps40
  go_wp2
  go_loopw [10, 3] (fun t v wr => ∃ j : Nat, j ≤ M.ss.length ∧ t = .int .i64 (j : Nat) ∧ OwnsT wr w.heap.size v (M.upto j) ∧ Below w.heap.size w wr) (fun t _ _ => M.ss.length - (intOf t).toNat)
  case atStart => exact ⟨0, by omega, rfl, World.ownsRow_nil _ _ _ _, Below.refl _ _⟩
  case round =>
    obtain ⟨j, hj, rfl, hov, hbr⟩ := hrel
    have hl := h.below hbr (Nat.le_refl _)
    obtain ⟨dw, ds, _, _, k2, k3, _, _, hdw, hds⟩ := hl.cells
    by_cases hlt : j < M.ss.length
    · obtain ⟨g, i, rfl, hi⟩ : ∃ g i, j = 8 * g + i ∧ i < 8 := ⟨j / 8, j % 8, by omega, Nat.mod_lt _ (by decide)⟩
      have hg : g < M.ws.length := by omega
      have kw := hl.word g hg
      have kk := hl.key _ hlt
      have hwl := hF.words g hg
      have hy := fun hb => upto_yes (M := M) (g := g) hi hb
      have hn := fun hb => upto_no (M := M) (g := g) hi hb
      have hll := upto_len M (8 * g + i)
      have h8 : (8 * (g : Int) + i) / 8 = g := by omega
      have hi1 : 8 * (g : Int) + i < M.ss.length := by omega
      generalize (M.s (8 * g + i)).1 = key at *
      generalize M.w g = wd at *
      simp only [Int.natCast_add, Int.natCast_mul, Int.cast_ofNat_Int]
      by_cases hb : byteN wd i < 128
      · have hu : Hid (M.upto (8 * g + i + 1) = M.upto (8 * g + i) ++ [key]) := hy hb
        have hb' : (byteN wd i : Int) < 128 := by omega
        clear hy hn hb
        generalize M.upto (8 * g + i) = us at *
        go_wp2_with fail
        refine same_mono (rget_any wd _ i (by omega) _ hwl) ?_
        go_wp2_with (at_builtin; refine ap_word _ rfl (.tmp 24) (.tmp 33) rfl w.heap.size _ us _ rfl rfl hov (by omega) hbr.size ?_; intro v' w2 hown' hb2)
        go_roundw
        case rel =>
          refine ⟨8 * g + i + 1, by omega, by simp, ?_, hbr.trans hb2⟩
          rw [hu.out]
          exact hown'
        case measure => simp only [intOf]; omega
      · have hu : Hid (M.upto (8 * g + i + 1) = M.upto (8 * g + i)) := hn hb
        have hb' : ¬ (byteN wd i : Int) < 128 := by omega
        clear hy hn hb
        go_wp2_with fail
        refine same_mono (rget_any wd _ i (by omega) _ hwl) ?_
        go_wp2
        go_roundw
        case rel =>
          refine ⟨8 * g + i + 1, by omega, by simp, ?_, hbr⟩
          rw [hu.out]
          exact hov
        case measure => simp only [intOf]; omega
    · obtain rfl : j = M.ss.length := by omega
      rw [hssl, upto_full] at hov
      go_wp2
      go_ret
      exact ⟨_, rfl, hov, hbr⟩
end Go.Proofs.YtiobfdfmfgjpfaaDoor

/-
  Contracts: corbelref05's Delete.
-/
namespace Go.Proofs.YtiobfdfmfgjpfaaDoor
open Go.RowKit Go.Shelf

set_option maxRecDepth 100000 in
set_option maxHeartbeats 4000000 in
theorem rdelete_any (b bw bs : Nat) (M : SM) (key : ByteArray) (w : World) (h : Lies 87 84 w b bw bs M) (hS : M.Sane IsV_s) (hk : key.size < 140737488355328) :
    Calls Tryd.prog 16 #[.pointer (some ⟨b, 0, none⟩), .string key] w fun e w' => e = .returned (.bool (M.del key (.string ⟨#[]⟩)).1) ∧ Lies 87 84 w' b bw bs (M.del key (.string ⟨#[]⟩)).2 ∧ But [b, bw, bs] w w' := by
  have hF := hS.fit
  have hr := good_range hF.good
  have hfew := hF.few
  have hfind := rfind_any b bw bs M key w h hF hk
  cases hfd : M.find key with
  | none =>
    have hdel : M.del key (.string ⟨#[]⟩) = (false, M) := by unfold SM.del; rw [hfd]
    rw [hdel]
    rw [hfd] at hfind
    clear hfd hdel
    go_enter Tryd.func16, Tryd.ntmps16
    go_wp2_with fail
    refine hfind.mono ?_
    rintro e w1 ⟨rfl, hb⟩
    clear hfind
    go_wp2
    go_ret
    exact ⟨rfl, h.below hb (Nat.le_refl _), But.of_below hb (Nat.le_refl _)⟩
  | some p =>
    obtain ⟨hp1, hp2, hp3, hkey⟩ := find_some hF hfd
    clear hkey
    have hwl := M.what_lt key
    have hn1 : 1 ≤ M.n := hS.some (p / 8) (p % 8) hp2 (Nat.mod_lt _ (by decide)) (by omega)
    obtain ⟨g, i, rfl, hi⟩ : ∃ g i, p = 8 * g + i ∧ i < 8 := ⟨p / 8, p % 8, by omega, Nat.mod_lt _ (by decide)⟩
    have hdel : M.del key (.string ⟨#[]⟩) = (true, { M with ws := M.ws.set g (putN (M.w g) i (if hasE (M.w g) then 128 else 254)), ss := M.ss.set (8 * g + i) (ByteArray.empty, (.string ⟨#[]⟩)), n := M.n - 1, t := if hasE (M.w g) then M.t else M.t + 1 }) := by
      unfold SM.del; rw [hfd]; simp only
      rw [show (8 * g + i) / 8 = g by omega, show (8 * g + i) % 8 = i by omega]
    rw [hdel]
    rw [show (8 * g + i) / 8 = g by omega] at hp2
    rw [hfd] at hfind
    simp only [Int.natCast_add, Int.natCast_mul, Int.cast_ofNat_Int] at hfind
    have hE := hasE_match (M.w g)
    have hwd := hF.words g hp2
    clear hfd hdel hp3
    generalize hwd0 : M.w g = wd at *
    have h8 : (8 * (g : Int) + i) / 8 = g := by omega
    have h9 : (8 * (g : Int) + i) % 8 = i := by omega
    have hs8 := hF.slots
    have hi1 : 8 * (g : Int) + i < M.ss.length := by omega
    have hi0 : 8 * (g : Int) + i ≠ -1 := by omega
    have hi2 : ¬ (8 * (g : Int) + i) < 0 := by omega
    have hm2 := matchN_lt wd 128
    have hwd1 : Hid (M.w g = wd) := hwd0
    by_cases hem : matchN wd 128 = 0
    · have hE' : hasE wd = false := by rw [hE, decide_eq_true hem]; rfl
      clear hE
      simp only [hE', Bool.false_eq_true, if_false]
      clear hE'
      have hd254 : (254 : Nat) < 256 := by decide
      go_enter Tryd.func16, Tryd.ntmps16
      go_wp2_with fail
      refine hfind.mono ?_
      rintro e w1 ⟨rfl, hb⟩
      have hl := h.below hb (Nat.le_refl _)
      obtain ⟨dw, ds, _, _, k2, k3, k4, k5, hdw, hds⟩ := hl.cells
      have kw := hl.word g hp2
      rw [hwd0] at kw
      have f5 := hl.free 5
      have hbut : But [b, bw, bs] w w1 := But.of_below hb (Nat.le_refl _)
      clear hfind hs8 hwd0
      go_wp2_with (go_at_call 43; refine same_mono (rmatch_any wd 128 _ hwd) ?_; rw [hem])
      have L1 := hl.setT (M.t + 1)
      rw [show ((M.t + 1 : Nat) : Int) = (M.t : Int) + 1 by omega] at L1
      replace hbut := hbut.setCell (p := ⟨b, 5, none⟩) (.inl (by simp)) (.int .i64 ((M.t : Int) + 1))
      clear k2 k3 k4 k5 f5 hl kw
      generalize w1.setCell ⟨b, 5, none⟩ (.int .i64 ((M.t : Int) + 1)) = w2 at *
      obtain ⟨M1, hM10⟩ : ∃ M1 : SM, M1 = { M with t := M.t + 1 } := ⟨_, rfl⟩
      have hM1 : M1.w g = wd := by rw [hM10]; exact hwd1.out
      have hM1n : M1.n = M.n := by rw [hM10]
      rw [← hM10] at L1
      have hp1' : 8 * g + i < M1.ss.length := by rw [hM10]; exact hp1
      have hp2' : g < M1.ws.length := by rw [hM10]; exact hp2
      obtain ⟨w1', s1', _, _, m2, m3, m4, m5, hw1, hs1⟩ := L1.cells
      have hne := L1.ne
      have fw := L1.freeW g
      have kw1 := L1.word g hp2'
      have hM1w : M1.w g = wd := hM1
      rw [hM1w] at kw1
      have ks1 := L1.key (8 * g + i) hp1'
      have ks2 := L1.val (8 * g + i) hp1'
      have fs1 := L1.freeS ((8 * g + i) * 2)
      have fs2 := L1.freeS ((8 * g + i) * 2 + 1)
      have fn1 := L1.free 4
      have hj1 : 8 * (g : Int) + i < M1.ss.length := by omega
      have hj2 : M1.n ≤ 1099511627776 := by rw [hM1n]; omega
      have hni : Hid (((M1.n - 1 : Nat) : Int) = (M1.n : Int) - 1) := by
        show _ = _
        rw [hM1n]; omega
      have HM10 : Hid (M1 = _) := hM10
      clear hM10 hM1 hM1n hM1w h8 hi0 hi2
      refine wp_last (by kernel_rfl) (by kernel_rfl) ?_
      dsimp only [initL, lastL]
      repeat (go_big_quiet_step ((go_at_call 44; exact Calls.quiet_of_same (rset_any wd (8 * (g : Int) + i) i 254 h9 _ hwd (by omega)))))
      refine wpQuiet_nil ?_
      rintro _ ⟨nq, rfl⟩
      gi_wp2
      have L2 := (L1.drewN nq).setW g (putN wd i 254)
      have hbut2 := (hbut.drewN nq).setCell (p := ⟨bw, g, none⟩) (.inl (by simp)) (.int .u64 ((putN wd i 254 : Nat) : Int))
      generalize (w2.drewN nq).setCell ⟨bw, g, none⟩ (.int .u64 ((putN wd i 254 : Nat) : Int)) = w3 at *
      obtain ⟨w1'', s1'', _, _, n2, n3, n4, n5, _, _⟩ := L2.cells
      have ks1' := L2.key (8 * g + i) hp1'
      have ks2' := L2.val (8 * g + i) hp1'
      have fs1' := L2.freeS ((8 * g + i) * 2)
      have fs2' := L2.freeS ((8 * g + i) * 2 + 1)
      have fn1' := L2.free 4
      clear m2 m3 m4 m5 ks1 ks2 fs1 fs2 fn1 fw kw1 hw1 hs1 hbut
      go_wp2
      go_ret
      refine ⟨rfl, ?_, ?_⟩
      · have hfin := (L2.setS (8 * g + i) ByteArray.empty (.string ⟨#[]⟩)).setN (M1.n - 1)
        rw [hni.out] at hfin
        have hM10 := HM10.out
        subst hM10
        exact hfin
      · exact (((hbut2.setCell (p := ⟨bs, (8 * g + i) * 2, none⟩) (.inl (by simp)) _).setCell (p := ⟨bs, (8 * g + i) * 2 + 1, none⟩) (.inl (by simp)) _).setCell (p := ⟨b, 4, none⟩) (.inl (by simp)) _)
    · have hE' : hasE wd = true := by rw [hE, decide_eq_false hem]; rfl
      clear hE
      simp only [hE', if_true]
      clear hE'
      have hem' : (matchN wd 128 : Int) ≠ 0 := by omega
      go_enter Tryd.func16, Tryd.ntmps16
      go_wp2_with fail
      refine hfind.mono ?_
      rintro e w1 ⟨rfl, hb⟩
      have hl := h.below hb (Nat.le_refl _)
      obtain ⟨dw, ds, _, _, k2, k3, k4, k5, hdw, hds⟩ := hl.cells
      have kw := hl.word g hp2
      rw [hwd0] at kw
      have f5 := hl.free 5
      have hbut : But [b, bw, bs] w w1 := But.of_below hb (Nat.le_refl _)
      clear hfind hs8 hwd0
      go_wp2_with (go_at_call 43; refine same_mono (rmatch_any wd 128 _ hwd) ?_)
      have L1 := hl
      clear k2 k3 k4 k5 f5 hl kw
      obtain ⟨M1, hM10⟩ : ∃ M1 : SM, M1 = M := ⟨_, rfl⟩
      have hM1 : M1.w g = wd := by rw [hM10]; exact hwd1.out
      have hM1n : M1.n = M.n := by rw [hM10]
      rw [← hM10] at L1
      have hp1' : 8 * g + i < M1.ss.length := by rw [hM10]; exact hp1
      have hp2' : g < M1.ws.length := by rw [hM10]; exact hp2
      obtain ⟨w1', s1', _, _, m2, m3, m4, m5, hw1, hs1⟩ := L1.cells
      have hne := L1.ne
      have fw := L1.freeW g
      have kw1 := L1.word g hp2'
      have hM1w : M1.w g = wd := hM1
      rw [hM1w] at kw1
      have ks1 := L1.key (8 * g + i) hp1'
      have ks2 := L1.val (8 * g + i) hp1'
      have fs1 := L1.freeS ((8 * g + i) * 2)
      have fs2 := L1.freeS ((8 * g + i) * 2 + 1)
      have fn1 := L1.free 4
      have hj1 : 8 * (g : Int) + i < M1.ss.length := by omega
      have hj2 : M1.n ≤ 1099511627776 := by rw [hM1n]; omega
      have hni : Hid (((M1.n - 1 : Nat) : Int) = (M1.n : Int) - 1) := by
        show _ = _
        rw [hM1n]; omega
      have HM10 : Hid (M1 = _) := hM10
      clear hM10 hM1 hM1n hM1w h8 hi0 hi2
      refine wp_last (by kernel_rfl) (by kernel_rfl) ?_
      dsimp only [initL, lastL]
      repeat (go_big_quiet_step ((go_at_call 44; exact Calls.quiet_of_same (rset_any wd (8 * (g : Int) + i) i 128 h9 _ hwd (by omega)))))
      refine wpQuiet_nil ?_
      rintro _ ⟨nq, rfl⟩
      gi_wp2
      have L2 := (L1.drewN nq).setW g (putN wd i 128)
      have hbut2 := (hbut.drewN nq).setCell (p := ⟨bw, g, none⟩) (.inl (by simp)) (.int .u64 ((putN wd i 128 : Nat) : Int))
      generalize (w1.drewN nq).setCell ⟨bw, g, none⟩ (.int .u64 ((putN wd i 128 : Nat) : Int)) = w3 at *
      obtain ⟨w1'', s1'', _, _, n2, n3, n4, n5, _, _⟩ := L2.cells
      have ks1' := L2.key (8 * g + i) hp1'
      have ks2' := L2.val (8 * g + i) hp1'
      have fs1' := L2.freeS ((8 * g + i) * 2)
      have fs2' := L2.freeS ((8 * g + i) * 2 + 1)
      have fn1' := L2.free 4
      clear m2 m3 m4 m5 ks1 ks2 fs1 fs2 fn1 fw kw1 hw1 hs1 hbut
      go_wp2
      go_ret
      refine ⟨rfl, ?_, ?_⟩
      · have hfin := (L2.setS (8 * g + i) ByteArray.empty (.string ⟨#[]⟩)).setN (M1.n - 1)
        rw [hni.out] at hfin
        have hM10 := HM10.out
        subst hM10
        exact hfin
      · exact (((hbut2.setCell (p := ⟨bs, (8 * g + i) * 2, none⟩) (.inl (by simp)) _).setCell (p := ⟨bs, (8 * g + i) * 2 + 1, none⟩) (.inl (by simp)) _).setCell (p := ⟨b, 4, none⟩) (.inl (by simp)) _)
end Go.Proofs.YtiobfdfmfgjpfaaDoor
