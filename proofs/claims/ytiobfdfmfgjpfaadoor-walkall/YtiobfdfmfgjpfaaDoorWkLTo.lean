import Derived.Test.YtiobfdfmfgjpfaaDoorWkATo
import Derived.OwnWalk
/-
  Contracts: Walk[string].Left, walk.New[string], Walk[string].Next.
-/
namespace Go.Proofs.YtiobfdfmfgjpfaaDoor
open Go.RowKit Go.Shelf

theorem left_any_s (x : Nat) (m : Value) (xs : List ByteArray) (w : World) (h : Wk 89 w x m xs) : Calls Tryd.prog 19 #[.pointer (some ⟨x, 0, none⟩)] w fun e w' => e = .returned (.int .i64 (xs.length : Nat)) ∧ w' = w := by
  obtain ⟨v, c0, c1, f1, ⟨p, c, rfl, h1, h2, h3⟩, _⟩ := h.cells
  clear h3
  go_enter Tryd.func19, Tryd.ntmps19
  go_wp2
  go_ret
  exact ⟨rfl, rfl⟩

theorem wk_new (w : World) (m v : Value) (t : TypeId) (xs : List ByteArray) (h : RowT w v xs) : Wk t (w.alloc (.cells #[m, v] t)) w.heap.size m xs := ⟨v, heap_alloc_new _ _, h.below ((Below.refl _ _).alloc (Nat.le_refl _) _)⟩

set_option maxHeartbeats 1000000 in
theorem wnew_any_s (b bw bs : Nat) (M : SM) (w : World) (hT : Tab w) (h : Lies 81 77 w b bw bs M) (hI : M.Inv IsV_s) :
    Calls Tryd.prog 13 #[.pointer (some ⟨b, 0, none⟩)] w fun e w' => ∃ x, e = .returned (.pointer (some ⟨x, 0, none⟩)) ∧ Wk 89 w' x (.pointer (some ⟨b, 0, none⟩)) M.keys ∧ w.heap.size ≤ x ∧ x < w'.heap.size ∧ Below w.heap.size w w' := by
  have hk := keys_any_s b bw bs M w hT h hI.fit (full_n hI)
  have hkl := keys_len hI
  go_enter Tryd.func13, Tryd.ntmps13
  go_wp2_with fail
  refine hk.mono ?_
  rintro e w1 ⟨g, rfl, hg, ho, hb⟩
  have hr : RowT w1 (.slice (some ⟨g, 0, none⟩) M.n M.n) M.keys := RowT.of_owns (B := 0) (by unfold OwnsT; rw [hkl]; exact ho)
  have hw := wk_new w1 (.pointer (some ⟨b, 0, none⟩)) (.slice (some ⟨g, 0, none⟩) M.n M.n) 89 M.keys hr
  clear hk ho
  go_wp2
  go_ret
  exact ⟨_, rfl, hw, hb.size, by simp, hb.alloc hb.size _⟩

/-- How many are ahead of the walk in block x. -/
def aheadN (x : Nat) (w : World) : Nat := match w.cell? ⟨x, 1, none⟩ with | some (.slice _ n _) => n | _ => 0
theorem aheadN_is {tW : TypeId} {w : World} {x : Nat} {m : Value} {xs : List ByteArray} (h : Wk tW w x m xs) : aheadN x w = xs.length := by
  obtain ⟨v, _, c1, _, ⟨p, c, rfl, _⟩, _⟩ := h.cells
  unfold aheadN
  rw [c1]

set_option maxRecDepth 10000 in
set_option maxHeartbeats 2000000 in
theorem wnext_any_s (x b bw bs : Nat) (M : SM) (xs : List ByteArray) (w : World) (hT : Tab w) (h : Lies 81 77 w b bw bs M) (hI : M.Inv IsV_s) (hs : ∀ k ∈ xs, k.size < 140737488355328) (hx0 : 0 < x) (hW : Wk 89 w x (.pointer (some ⟨b, 0, none⟩)) xs) :
    Calls Tryd.prog 17 #[.pointer (some ⟨x, 0, none⟩)] w fun e w' => e = .returned (.tuple #[.string (M.nk xs), .string (M.nv xs), .bool (M.nb xs)]) ∧ Wk 89 w' x (.pointer (some ⟨b, 0, none⟩)) (M.skip xs).tail ∧ But [x] w w' := by
  obtain ⟨_, hW1, _⟩ := id hW
  go_enter Tryd.func17, Tryd.ntmps17
  go_wp2
  go_loopw [3] (fun v wr => v = .string ⟨#[]⟩ ∧ ∃ ys, (∃ pre, xs = pre ++ ys) ∧ Hid (M.skip xs = M.skip ys) ∧ Wk 89 wr x (.pointer (some ⟨b, 0, none⟩)) ys ∧ But [x] w wr) (fun _ wr => aheadN x wr)
  case atStart => exact ⟨rfl, xs, ⟨[], rfl⟩, rfl, hW, But.refl _ _⟩
  case round =>
    obtain ⟨rfl, ys, ⟨pre, hpre⟩, hsk, hWr, hbr⟩ := hrel
    have hleft := left_any_s x _ ys wr hWr
    cases ys with
    | nil =>
      clear hpre hs
      go_wp2_with fail
      refine same_mono hleft ?_
      go_wp2
      go_ret3
      refine ⟨?_, by rw [hsk.out]; exact hWr, hbr⟩
      unfold SM.nk SM.nv SM.nb
      rw [hsk.out]
      rfl
    | cons k r =>
      have hks : k.size < 140737488355328 := hs k (by rw [hpre]; simp)
      obtain ⟨v, c0, c1, f1, hrow, hob⟩ := hWr.cells
      obtain ⟨p, c, rfl, _⟩ := id hrow
      obtain ⟨g, o, q, rfl, hn, hc, ck, ⟨cur, f, hg⟩, hif, htail⟩ := hrow.tail
      have hset := Wk.set (m := .pointer (some ⟨b, 0, none⟩)) (by decide) hob htail
      have hbs : But [x] w (wr.setCell ⟨x, 1, none⟩ (.slice (some q) r.length (c - 1))) := hbr.setCell (.inl (by simp)) _
      have hL2 := h.other (by decide) hW1 hbs
      have hT2 := hbs.tab hT (by simp; omega)
      have hget := get_map_s b bw bs M k _ hT2 hL2 hI.fit hI.typed hks
      rw [get_val hI, get_is] at hget
      rw [List.length_cons] at hleft
      have hm1 := aheadN_is hWr
      have hm2 := aheadN_is hset
      clear hW1 hob hrow
      go_wp2_with fail
      refine same_mono hleft ?_
      go_wp2_with fail
      refine hget.mono ?_
      rintro e w2 ⟨rfl, hb2⟩
      have hW2 := hset.below hb2
      have hB2 : But [x] w w2 := hbs.trans (But.of_below hb2 (Nat.le_refl _))
      have hm3 := aheadN_is hW2
      clear hget hb2 hset hbs hL2 hT2 htail hif ck hg c1 c0 f1 hWr
      cases hfd : (M.find k).isSome with
      | true =>
        have hsk2 : Hid (M.skip xs = k :: r) := by show _ = _; rw [hsk.out, skip_here hfd]
        go_wp2
        go_ret3
        refine ⟨?_, by rw [hsk2.out]; exact hW2, hB2⟩
        unfold SM.nk SM.nv SM.nb
        rw [hsk2.out]
        rfl
      | false =>
        have hsk2 : Hid (M.skip xs = M.skip r) := by show _ = _; rw [hsk.out, skip_gone hfd]
        have hvz : valK M k = ⟨#[]⟩ := by unfold valK; rw [get_not hfd]
        rw [hvz]
        go_wp2
        go_roundw
        case rel => exact ⟨rfl, r, ⟨pre ++ [k], by rw [hpre]; simp⟩, hsk2, hW2, hB2⟩
        case measure => rw [hm1, hm3]; simp
end Go.Proofs.YtiobfdfmfgjpfaaDoor

/-
  The walk's row of keys lies in blocks that are known (G): walk.New[string], Next, All[string] as an iterator.
-/
namespace Go.Proofs.YtiobfdfmfgjpfaaDoor
open Go.RowKit Go.Shelf

/-- The row lies in a block of G. -/
def InG (G : Nat → Prop) (v : Value) : Prop := ∀ g o n c, v = .slice (some ⟨g, o, none⟩) n c → G g
theorem InG.tail {G : Nat → Prop} {g o n c n' c' : Nat} {q : Addr} (h : InG G (.slice (some ⟨g, o, none⟩) n c)) (hif : (if c = 1 then some (⟨g, o, none⟩ : Addr) else some ⟨g, o + 1, none⟩) = some q) : InG G (.slice (some q) n' c') := by
  intro g' o' n2 c2 e
  have hG := h g o n c rfl
  simp only [Value.slice.injEq, Option.some.injEq] at e
  obtain ⟨rfl, _, _⟩ := e
  split at hif
  · cases hif; exact hG
  · cases hif; exact hG
def WkG (G : Nat → Prop) (tW : TypeId) (w : World) (x : Nat) (m : Value) (xs : List ByteArray) : Prop := ∃ v, w.heap[x]? = some (Obj.cells #[m, v] tW (0, 0)) ∧ RowT w v xs ∧ InG G v
variable {G : Nat → Prop} {tW : TypeId} {w w' : World} {x : Nat} {m : Value} {xs : List ByteArray}
theorem WkG.wk (h : WkG G tW w x m xs) : Wk tW w x m xs := by
  obtain ⟨v, h1, h2, _⟩ := h
  exact ⟨v, h1, h2⟩
theorem WkG.below (h : WkG G tW w x m xs) (hb : Below w.heap.size w w') : WkG G tW w' x m xs := by
  obtain ⟨v, h1, h2, h3⟩ := h
  exact ⟨v, (hb.block x (Array.getElem?_eq_some_iff.1 h1).1).trans h1, h2.below hb, h3⟩
theorem WkG.cells (h : WkG G tW w x m xs) : ∃ v, w.cell? ⟨x, 0, none⟩ = some m ∧ w.cell? ⟨x, 1, none⟩ = some v ∧ w.frozen? ⟨x, 1, none⟩ = false ∧ RowT w v xs ∧ w.heap[x]? = some (Obj.cells #[m, v] tW (0, 0)) ∧ InG G v := by
  obtain ⟨v, h1, h2, h3⟩ := h
  refine ⟨v, ?_, ?_, ?_, h2, h1, h3⟩
  · unfold World.cell?; dsimp only; rw [h1]; rfl
  · unfold World.cell?; dsimp only; rw [h1]; rfl
  · simp [World.frozen?, h1]
theorem WkG.set {v v' : Value} (hW : tW ≠ 9) (h1 : w.heap[x]? = some (Obj.cells #[m, v] tW (0, 0))) (h2 : RowT w v' xs) (h3 : InG G v') : WkG G tW (w.setCell ⟨x, 1, none⟩ v') x m xs := by
  refine ⟨v', ?_, ?_, h3⟩
  · simp [World.setCell, Array.getElem?_modify, h1]
  · exact h2.kinds (T := [tW]) (Kinds.one h1 ((But.refl [x] w).setCell (.inl (by simp)) _)) (by simpa using Ne.symm hW)
/-- A window of blocks lies as it lay: the walk and its row with it. -/
theorem WkG.keeps {A B : Nat} (h : WkG (fun g => A ≤ g ∧ g < B) tW w x m xs) (hk : Keeps A B w w') (hx : A ≤ x ∧ x < B) : WkG (fun g => A ≤ g ∧ g < B) tW w' x m xs := by
  obtain ⟨v, h1, ⟨p, c, rfl, r1, r2, r3⟩, h3⟩ := h
  refine ⟨_, (hk.same x hx.1 hx.2).trans h1, ⟨p, c, rfl, r1, r2, fun h0 => ?_⟩, h3⟩
  obtain ⟨g, o, cur, f, rfl, hg, hc⟩ := r3 h0
  obtain ⟨g1, g2⟩ := h3 g o _ _ rfl
  have hs := hk.same g g1 g2
  exact ⟨g, o, cur, f, rfl, hs.trans hg, fun i hi => (World.cell?_of_block (a := ⟨g, o + i, none⟩) hs).trans (hc i hi)⟩

set_option maxHeartbeats 1000000 in
theorem wnewG_any_s (b bw bs : Nat) (M : SM) (w : World) (hT : Tab w) (h : Lies 81 77 w b bw bs M) (hI : M.Inv IsV_s) :
    Calls Tryd.prog 13 #[.pointer (some ⟨b, 0, none⟩)] w fun e w' => ∃ x, e = .returned (.pointer (some ⟨x, 0, none⟩)) ∧ WkG (fun g => w.heap.size ≤ g ∧ g < w'.heap.size) 89 w' x (.pointer (some ⟨b, 0, none⟩)) M.keys ∧ w.heap.size ≤ x ∧ x < w'.heap.size ∧ Below w.heap.size w w' := by
  have hk := keys_any_s b bw bs M w hT h hI.fit (full_n hI)
  have hkl := keys_len hI
  go_enter Tryd.func13, Tryd.ntmps13
  go_wp2_with fail
  refine hk.mono ?_
  rintro e w1 ⟨g, rfl, hg, ho, hb⟩
  have hg2 := (World.ownsRow.lt ho g rfl).2
  have hr : RowT w1 (.slice (some ⟨g, 0, none⟩) M.n M.n) M.keys := RowT.of_owns (B := 0) (by unfold OwnsT; rw [hkl]; exact ho)
  obtain ⟨v, hw1, hw2⟩ := wk_new w1 (.pointer (some ⟨b, 0, none⟩)) (.slice (some ⟨g, 0, none⟩) M.n M.n) 89 M.keys hr
  rw [heap_alloc_new] at hw1
  simp only [Option.some.injEq, Obj.cells.injEq] at hw1
  have hv : Value.slice (some ⟨g, 0, none⟩) M.n M.n = v := by
    have := hw1.1
    simpa using this
  subst hv
  clear hk ho hw1
  go_wp2
  go_ret
  refine ⟨_, rfl, ⟨_, heap_alloc_new _ _, hw2, ?_⟩, hb.size, by simp, hb.alloc hb.size _⟩
  intro g' o n c e
  cases e
  exact ⟨hg, by simp; omega⟩

set_option maxRecDepth 10000 in
set_option maxHeartbeats 2000000 in
theorem wnextG_any_s (G : Nat → Prop) (x b bw bs : Nat) (M : SM) (xs : List ByteArray) (w : World) (hT : Tab w) (h : Lies 81 77 w b bw bs M) (hI : M.Inv IsV_s) (hs : ∀ k ∈ xs, k.size < 140737488355328) (hx0 : 0 < x) (hW : WkG G 89 w x (.pointer (some ⟨b, 0, none⟩)) xs) :
    Calls Tryd.prog 17 #[.pointer (some ⟨x, 0, none⟩)] w fun e w' => e = .returned (.tuple #[.string (M.nk xs), .string (M.nv xs), .bool (M.nb xs)]) ∧ WkG G 89 w' x (.pointer (some ⟨b, 0, none⟩)) (M.skip xs).tail ∧ But [x] w w' := by
  obtain ⟨_, hW1, _⟩ := id hW.wk
  go_enter Tryd.func17, Tryd.ntmps17
  go_wp2
  go_loopw [3] (fun v wr => v = .string ⟨#[]⟩ ∧ ∃ ys, (∃ pre, xs = pre ++ ys) ∧ Hid (M.skip xs = M.skip ys) ∧ WkG G 89 wr x (.pointer (some ⟨b, 0, none⟩)) ys ∧ But [x] w wr) (fun _ wr => aheadN x wr)
  case atStart => exact ⟨rfl, xs, ⟨[], rfl⟩, rfl, hW, But.refl _ _⟩
  case round =>
    obtain ⟨rfl, ys, ⟨pre, hpre⟩, hsk, hWr, hbr⟩ := hrel
    have hleft := left_any_s x _ ys wr hWr.wk
    cases ys with
    | nil =>
      clear hpre hs
      go_wp2_with fail
      refine same_mono hleft ?_
      go_wp2
      go_ret3
      refine ⟨?_, by rw [hsk.out]; exact hWr, hbr⟩
      unfold SM.nk SM.nv SM.nb
      rw [hsk.out]
      rfl
    | cons k r =>
      have hks : k.size < 140737488355328 := hs k (by rw [hpre]; simp)
      obtain ⟨v, c0, c1, f1, hrow, hob, hGv⟩ := hWr.cells
      obtain ⟨p, c, rfl, _⟩ := id hrow
      obtain ⟨g, o, q, rfl, hn, hc, ck, ⟨cur, f, hg⟩, hif, htail⟩ := hrow.tail
      have hset := WkG.set (G := G) (m := .pointer (some ⟨b, 0, none⟩)) (by decide) hob htail (hGv.tail hif)
      have hbs : But [x] w (wr.setCell ⟨x, 1, none⟩ (.slice (some q) r.length (c - 1))) := hbr.setCell (.inl (by simp)) _
      have hL2 := h.other (by decide) hW1 hbs
      have hT2 := hbs.tab hT (by simp; omega)
      have hget := get_map_s b bw bs M k _ hT2 hL2 hI.fit hI.typed hks
      rw [get_val hI, get_is] at hget
      rw [List.length_cons] at hleft
      have hm1 := aheadN_is hWr.wk
      have hm2 := aheadN_is hset.wk
      clear hW1 hob hrow hGv
      go_wp2_with fail
      refine same_mono hleft ?_
      go_wp2_with fail
      refine hget.mono ?_
      rintro e w2 ⟨rfl, hb2⟩
      have hW2 := hset.below hb2
      have hB2 : But [x] w w2 := hbs.trans (But.of_below hb2 (Nat.le_refl _))
      have hm3 := aheadN_is hW2.wk
      clear hget hb2 hset hbs hL2 hT2 htail hif ck hg c1 c0 f1 hWr
      cases hfd : (M.find k).isSome with
      | true =>
        have hsk2 : Hid (M.skip xs = k :: r) := by show _ = _; rw [hsk.out, skip_here hfd]
        go_wp2
        go_ret3
        refine ⟨?_, by rw [hsk2.out]; exact hW2, hB2⟩
        unfold SM.nk SM.nv SM.nb
        rw [hsk2.out]
        rfl
      | false =>
        have hsk2 : Hid (M.skip xs = M.skip r) := by show _ = _; rw [hsk.out, skip_gone hfd]
        have hvz : valK M k = ⟨#[]⟩ := by unfold valK; rw [get_not hfd]
        rw [hvz]
        go_wp2
        go_roundw
        case rel => exact ⟨rfl, r, ⟨pre ++ [k], by rw [hpre]; simp⟩, hsk2, hW2, hB2⟩
        case measure => rw [hm1, hm3]; simp
end Go.Proofs.YtiobfdfmfgjpfaaDoor

/-
  The walk of corbellaw06.lives: the document's example.
-/
namespace Go.Proofs.YtiobfdfmfgjpfaaDoor
open Go.RowKit Go.Shelf

def liveK6 (i : Nat) : ByteArray := ⟨#[UInt8.ofNat (97 + i)]⟩
def liveM6 : Nat → SM
  | 0 => SM.empty 0 0 (.string ⟨#[]⟩) 1
  | i + 1 => ((liveM6 i).put (liveK6 i) (.string (liveK6 i)) (.string ⟨#[]⟩)).2.2
def deadM6 : Nat → SM
  | 0 => liveM6 3
  | j + 1 => if j = 0 then liveM6 3 else ((deadM6 j).del ((liveM6 3).keys.getD j ByteArray.empty) (.string ⟨#[]⟩)).2
theorem live6_three : (liveM6 3).keys.length = 3 := by decide +kernel
theorem dead6_end : ((deadM6 3).skip (liveM6 3).keys.tail).isEmpty = true ∧ (deadM6 3).n = 1 := by decide +kernel
theorem liveK6_size (i : Nat) : (liveK6 i).size < 140737488355328 := by show 1 < _; omega
theorem live6_inv : ∀ i, (liveM6 i).Inv IsV_s
  | 0 => (inv_empty 0 0 (.string ⟨#[]⟩) 1 (by decide) (isV_string _)).1
  | i + 1 => (inv_put (live6_inv i) (key := liveK6 i) (v := .string (liveK6 i)) (z := .string ⟨#[]⟩) (isV_string _) (isV_string _) (liveK6_size i)).1
theorem dead6_inv : ∀ j, (deadM6 j).Inv IsV_s
  | 0 => live6_inv 3
  | j + 1 => by
    unfold deadM6
    split
    · exact live6_inv 3
    · exact (inv_del (dead6_inv j) (z := .string ⟨#[]⟩) (isV_string _)).1
theorem infoT3 : (Tryd.prog.info? 9).map (fun i => (i.zero, i.size, i.bytes)) = some (some (.string ⟨#[]⟩), 1, 16) := by kernel_rfl
theorem index_three (x y z : Value) (W : World) : (Instr.index 74 (.agg #[x, y, z]) (.int .i64 0)).run Tryd.prog W = .ok x W ∧ (Instr.index 74 (.agg #[x, y, z]) (.int .i64 1)).run Tryd.prog W = .ok y W ∧ (Instr.index 74 (.agg #[x, y, z]) (.int .i64 2)).run Tryd.prog W = .ok z W := by
  obtain ⟨i1, hi1, hz1, hs1, hb1⟩ := info_parts infoT3
  refine ⟨?_, ?_, ?_⟩
  all_goals simp [Instr.index, asIntOf, run_underlying Tryd.underlying74, sizeOf, typeInfo, hi1, hs1, part, go_sem]
theorem nodup_ne : ∀ {xs : List ByteArray}, xs.Nodup → ∀ {i j : Nat}, i < xs.length → j < xs.length → i ≠ j → xs.getD i ByteArray.empty ≠ xs.getD j ByteArray.empty := by
  intro xs h i j hi hj hne e
  rw [List.getD_eq_getElem?_getD, List.getD_eq_getElem?_getD, List.getElem?_eq_getElem hj, List.getElem?_eq_getElem hi] at e
  rcases Nat.lt_or_gt_of_ne hne with hl | hl
  · exact List.pairwise_iff_getElem.1 h i j hi hj hl e
  · exact List.pairwise_iff_getElem.1 h j i hj hi hl e.symm
/-- All keys are there. -/
theorem skip_all {M : SM} {K : Value → Prop} (h : M.Inv K) {k : ByteArray} {r : List ByteArray} (hk : k ∈ M.keys) : M.skip (k :: r) = k :: r := skip_here (keys_has h hk)

set_option maxRecDepth 10000 in
set_option maxHeartbeats 4000000 in
theorem lives_any (w : World) (hT : Tab w) : Calls Tryd.prog 10 #[] w fun e w' => e = .returned (.bool true) ∧ Below w.heap.size w w' := by
  have hw0 := hT.1
  have hnew := new_any_s 0 0 0 w (by omega) (by omega) (by decide)
  rw [show (needI 0).toNat = 1 by decide] at hnew
  have hix := fun W => index_three (.string ⟨#[97]⟩) (.string ⟨#[98]⟩) (.string ⟨#[99]⟩) W
  go_enter Tryd.func10, Tryd.ntmps10
  go_wp2_with fail
  refine hnew.mono ?_
  rintro e w1 ⟨b, bw0, bs0, rfl, hl0, g1, g2, g3, hb1⟩
  clear hnew
  go_wp2
  go_loopw [16] (fun t wr => ∃ (i bw bs : Nat), i ≤ 3 ∧ t = .int .i64 (i : Nat) ∧ Lies 81 77 wr b bw bs (liveM6 i) ∧ w.heap.size ≤ bw ∧ w.heap.size ≤ bs ∧ Below w.heap.size w wr) (fun t _ => 3 - (intOf t).toNat)
  case atStart => exact ⟨0, bw0, bs0, by omega, rfl, hl0, g2, g3, hb1⟩
  case round =>
    obtain ⟨i, bw, bs, hi, rfl, hl, q2, q3, hb⟩ := hrel
    have hTr := hT.below hb hw0
    have hzr := hb.size
    by_cases hlt : i < 3
    · have hput := put_any_s b bw bs (liveM6 i) (liveK6 i) (liveK6 i) wr hTr hl (sane_of_inv (live6_inv i)) (liveK6_size i)
      have hlm : ((liveM6 i).put (liveK6 i) (.string (liveK6 i)) (.string ⟨#[]⟩)).2.2 = liveM6 (i + 1) := rfl
      rw [hlm] at hput
      generalize ((liveM6 i).put (liveK6 i) (.string (liveK6 i)) (.string ⟨#[]⟩)).2.1 = er at *
      generalize ((liveM6 i).put (liveK6 i) (.string (liveK6 i)) (.string ⟨#[]⟩)).1 = is at *
      clear hlm
      obtain ⟨i1, i2, i3⟩ := hix wr
      obtain rfl | rfl | rfl : i = 0 ∨ i = 1 ∨ i = 2 := by omega
      all_goals
        rw [show liveK6 _ = ⟨#[_]⟩ from rfl] at hput
        go_wp2_with fail
        refine hput.mono ?_
        rintro e w2 ⟨rfl, bw', bs', hl2, hbut, h1, h2⟩
        have hB2 : Below w.heap.size w w2 := hb.trans (hbut.below (B := w.heap.size) (by simp; omega) (by omega))
        have g2' : w.heap.size ≤ bw' := by omega
        have g3' : w.heap.size ≤ bs' := by omega
        clear hput hl hbut h1 h2
        go_wp2
        go_roundw
        case rel => exact ⟨_, bw', bs', by decide, rfl, hl2, g2', g3', hB2⟩
        case measure => simp only [intOf]; decide
    · obtain rfl : i = 3 := by omega
      have hI := live6_inv 3
      have hl3 := live6_three
      have hnd : (liveM6 3).keys.Nodup := keys_nodup hI
      have hdead : deadM6 0 = liveM6 3 := rfl
      go_wp2_with fail
      refine (wnew_any_s b bw bs (liveM6 3) wr hTr hl hI).mono ?_
      rintro e w2 ⟨x, rfl, hW, hx1, hx2, hb2⟩
      have hB2 := hb.trans (hb2.mono hzr)
      have hl2 := hl.below hb2 (Nat.le_refl _)
      have hnx := wnext_any_s x b bw bs (liveM6 3) _ w2 (hT.below hB2 hw0) hl2 hI (fun k hk => keys_size hI hk) (by omega) hW
      obtain ⟨k0, r0, hkr⟩ : ∃ k0 r0, (liveM6 3).keys = k0 :: r0 := by
        cases hk : (liveM6 3).keys with
        | nil => rw [hk] at hl3; cases hl3
        | cons a r => exact ⟨a, r, rfl⟩
      have hsk : (liveM6 3).skip (liveM6 3).keys = k0 :: r0 := by rw [hkr]; exact skip_all hI (by rw [hkr]; exact List.mem_cons_self)
      rw [show (liveM6 3).nk (liveM6 3).keys = k0 by unfold SM.nk; rw [hsk]; rfl, show (liveM6 3).nb (liveM6 3).keys = true by unfold SM.nb; rw [hsk], hsk, List.tail_cons] at hnx
      generalize (liveM6 3).nv (liveM6 3).keys = v0 at hnx
      clear hsk hl hb hTr hb1 hl0
      have hx0 : ∃ vx, w2.heap[x]? = some (Obj.cells #[.pointer (some ⟨b, 0, none⟩), vx] 89 (0, 0)) := by
        obtain ⟨vx, h1, _⟩ := hW
        exact ⟨vx, h1⟩
      obtain ⟨vx, hx0⟩ := hx0
      go_wp2_with fail
      refine hnx.mono ?_
      rintro e w3 ⟨rfl, hW3, hb3⟩
      have hl3' := hl2.other (by decide) hx0 hb3
      have hB3 := hB2.trans (hb3.below (B := w.heap.size) (by simp; omega) (by omega))
      have hz3 := hB3.size
      clear hnx hW hl2 hb2 hb3 hx0
      have hfn := full_n hI
      have hkl := keys_len hI
      go_wp2_with fail
      refine (keys_any_s b bw bs (liveM6 3) w3 (hT.below hB3 hw0) hl3' hI.fit hfn).mono ?_
      rintro e w4 ⟨gc, rfl, hgc, oc, hb4⟩
      have hB4 : Below w.heap.size w w4 := hB3.trans (hb4.mono hz3)
      have hl4 := hl3'.below hb4 (Nat.le_refl _)
      have hW4 := hW3.below hb4
      have ta : RowT w4 (.slice (some ⟨gc, 0, none⟩) (liveM6 3).n (liveM6 3).n) (liveM6 3).keys := RowT.of_owns (B := 0) (by unfold OwnsT; rw [hkl]; exact oc)
      rw [← hkl, hl3] at ta ⊢
      clear hl3' hb4 oc hW3 hB3
      go_wp2
      go_loopw [35] (fun t wr => ∃ (j bw bs : Nat), j ≤ 3 ∧ t = .int .i64 (j : Nat) ∧ Lies 81 77 wr b bw bs (deadM6 j) ∧ w.heap.size ≤ bw ∧ w.heap.size ≤ bs ∧ Wk 89 wr x (.pointer (some ⟨b, 0, none⟩)) r0 ∧ RowT wr (.slice (some ⟨gc, 0, none⟩) 3 3) (liveM6 3).keys ∧ Below w.heap.size w wr) (fun t _ => 3 - (intOf t).toNat)
      case atStart => exact ⟨0, bw, bs, by omega, rfl, hl4, q2, q3, hW4, ta, hB4⟩
      case round =>
        obtain ⟨j, bw, bs, hj, rfl, hl, q2, q3, hWr, htr, hb⟩ := hrel
        clear hl4 hW4 ta hB4
        have hTr := hT.below hb hw0
        have hzr := hb.size
        by_cases hlt : j < 3
        · obtain ⟨_, _, hpp, hnc, hjl, ck⟩ := text_at htr.has (Below.refl _ _) (Nat.le_refl _) hlt
          cases hpp
          rw [Nat.zero_add] at ck
          by_cases h0 : j = 0
          · subst h0
            rw [hkr] at ck
            have ck' : wr.cell? ⟨gc, 0, none⟩ = some (.string k0) := ck
            have hd1 : deadM6 (0 + 1) = deadM6 0 := rfl
            clear ck
            go_wp2
            go_roundw
            case rel => exact ⟨1, bw, bs, by omega, rfl, hl, q2, q3, hWr, htr, hb⟩
            case measure => simp only [intOf]; omega
          · have hks := keys_size hI (getD_mem hjl)
            have hne : ¬ (liveM6 3).keys.getD j ByteArray.empty = k0 := by
              have := nodup_ne hnd hjl (j := 0) (by rw [hl3]; omega) h0
              rw [hkr] at this ⊢
              exact this
            have hdel := delete_any_s b bw bs (deadM6 j) ((liveM6 3).keys.getD j ByteArray.empty) wr hTr hl (sane_of_inv (dead6_inv j)) hks
            have hd1 : ((deadM6 j).del ((liveM6 3).keys.getD j ByteArray.empty) (.string ⟨#[]⟩)).2 = deadM6 (j + 1) := by rw [deadM6, if_neg h0]
            rw [hd1] at hdel
            clear hd1 hks
            generalize ((deadM6 j).del ((liveM6 3).keys.getD j ByteArray.empty) (.string ⟨#[]⟩)).1 = is at *
            generalize (liveM6 3).keys.getD j ByteArray.empty = kk at *
            have hne' := str_ne hne
            go_wp2_with fail
            refine hdel.mono ?_
            rintro e w5 ⟨rfl, hl5, hbut⟩
            have hk5 := Kinds.of hl hbut
            have hB5 : Below w.heap.size w w5 := hb.trans (hbut.below (B := w.heap.size) (by simp; omega) (by omega))
            have hW5 := hWr.kinds hk5 (by decide) (by decide)
            have ht5 := htr.kinds hk5 (by decide)
            clear hdel hbut hk5 hl hWr htr
            go_wp2
            go_roundw
            case rel => exact ⟨j + 1, bw, bs, by omega, by simp, hl5, q2, q3, hW5, ht5, hB5⟩
            case measure => simp only [intOf]; omega
        · obtain rfl : j = 3 := by omega
          have hI3 := dead6_inv 3
          obtain ⟨he1, he2⟩ := dead6_end
          have he3 : (deadM6 3).skip r0 = [] := by
            rw [hkr] at he1
            exact List.isEmpty_iff.1 he1
          have hnx := wnext_any_s x b bw bs (deadM6 3) r0 wr hTr hl hI3 (fun k hk => keys_size hI (by rw [hkr]; exact List.mem_cons_of_mem _ hk)) (by omega) hWr
          rw [show (deadM6 3).nb r0 = false by unfold SM.nb; rw [he3], he3] at hnx
          generalize (deadM6 3).nk r0 = k9 at hnx
          generalize (deadM6 3).nv r0 = v9 at hnx
          obtain ⟨vx, hx0, _⟩ := id hWr
          go_wp2_with fail
          refine hnx.mono ?_
          rintro e w5 ⟨rfl, hW5, hb5⟩
          have hl5 := hl.other (by decide) hx0 hb5
          have hB5 := hb.trans (hb5.below (B := w.heap.size) (by simp; omega) (by omega))
          have hlen := len_any_s b bw bs (deadM6 3) w5 hl5 hI3.fit
          rw [he2] at hlen
          clear hnx hb5 hl hWr htr hx0 hdead
          go_wp2_with fail
          refine same_mono hlen ?_
          go_wp2_with fail
          refine same_mono (left_any_s x _ _ w5 hW5) ?_
          go_wp2
          go_ret
          exact ⟨rfl, hB5⟩
end Go.Proofs.YtiobfdfmfgjpfaaDoor
