import Derived.Test.YthlghokgknkpaaaGreatDoorWkBTo
/-
  The walk's row of keys lies in blocks that are known (G): walk.New[string], Next, All[string] as an iterator.
-/
namespace Go.Proofs.YthlghokgknkpaaaGreatDoor
open Go.RowKit Go.Shelf

/-- The row lies in a block of G. -/
def InG (G : Nat → Prop) (v : Value) : Prop := ∀ g o n c, v = .slice (some ⟨g, o, none⟩) n c → G g
theorem InG.tail {G : Nat → Prop} {g o n c n' c' : Nat} {q : Addr} (h : InG G (.slice (some ⟨g, o, none⟩) n c)) (hif : (if c = 1 then some (⟨g, o, none⟩ : Addr) else some ⟨g, o + 1, none⟩) = some q) : InG G (.slice (some q) n' c') := by
  intro g' o' n2 c2 e
  have hG := h g o n c rfl
  simp only [Value.slice.injEq, Option.some.injEq] at e
  obtain ⟨rfl, _, _⟩ := e
  split at hif
  · cases hif; exact hG
  · cases hif; exact hG
def WkG (G : Nat → Prop) (tW : TypeId) (w : World) (x : Nat) (m : Value) (xs : List ByteArray) : Prop := ∃ v, w.heap[x]? = some (Obj.cells #[m, v] tW (0, 0)) ∧ RowT w v xs ∧ InG G v
variable {G : Nat → Prop} {tW : TypeId} {w w' : World} {x : Nat} {m : Value} {xs : List ByteArray}
theorem WkG.wk (h : WkG G tW w x m xs) : Wk tW w x m xs := by
  obtain ⟨v, h1, h2, _⟩ := h
  exact ⟨v, h1, h2⟩
theorem WkG.below (h : WkG G tW w x m xs) (hb : Below w.heap.size w w') : WkG G tW w' x m xs := by
  obtain ⟨v, h1, h2, h3⟩ := h
  exact ⟨v, (hb.block x (Array.getElem?_eq_some_iff.1 h1).1).trans h1, h2.below hb, h3⟩
theorem WkG.cells (h : WkG G tW w x m xs) : ∃ v, w.cell? ⟨x, 0, none⟩ = some m ∧ w.cell? ⟨x, 1, none⟩ = some v ∧ w.frozen? ⟨x, 1, none⟩ = false ∧ RowT w v xs ∧ w.heap[x]? = some (Obj.cells #[m, v] tW (0, 0)) ∧ InG G v := by
  obtain ⟨v, h1, h2, h3⟩ := h
  refine ⟨v, ?_, ?_, ?_, h2, h1, h3⟩
  · unfold World.cell?; dsimp only; rw [h1]; rfl
  · unfold World.cell?; dsimp only; rw [h1]; rfl
  · simp [World.frozen?, h1]
theorem WkG.set {v v' : Value} (hW : tW ≠ 9) (h1 : w.heap[x]? = some (Obj.cells #[m, v] tW (0, 0))) (h2 : RowT w v' xs) (h3 : InG G v') : WkG G tW (w.setCell ⟨x, 1, none⟩ v') x m xs := by
  refine ⟨v', ?_, ?_, h3⟩
  · simp [World.setCell, Array.getElem?_modify, h1]
  · exact h2.kinds (T := [tW]) (Kinds.one h1 ((But.refl [x] w).setCell (.inl (by simp)) _)) (by simpa using Ne.symm hW)
/-- A window of blocks lies as it lay: the walk and its row with it. -/
theorem WkG.keeps {A B : Nat} (h : WkG (fun g => A ≤ g ∧ g < B) tW w x m xs) (hk : Keeps A B w w') (hx : A ≤ x ∧ x < B) : WkG (fun g => A ≤ g ∧ g < B) tW w' x m xs := by
  obtain ⟨v, h1, ⟨p, c, rfl, r1, r2, r3⟩, h3⟩ := h
  refine ⟨_, (hk.same x hx.1 hx.2).trans h1, ⟨p, c, rfl, r1, r2, fun h0 => ?_⟩, h3⟩
  obtain ⟨g, o, cur, f, rfl, hg, hc⟩ := r3 h0
  obtain ⟨g1, g2⟩ := h3 g o _ _ rfl
  have hs := hk.same g g1 g2
  exact ⟨g, o, cur, f, rfl, hs.trans hg, fun i hi => (World.cell?_of_block (a := ⟨g, o + i, none⟩) hs).trans (hc i hi)⟩

set_option maxHeartbeats 1000000 in
theorem wnewG_any_s (b bw bs : Nat) (M : SM) (w : World) (hT : Tab w) (h : Lies 74 71 w b bw bs M) (hI : M.Inv IsV_s) :
    Calls Tryz.prog 80 #[.pointer (some ⟨b, 0, none⟩)] w fun e w' => ∃ x, e = .returned (.pointer (some ⟨x, 0, none⟩)) ∧ WkG (fun g => w.heap.size ≤ g ∧ g < w'.heap.size) 141 w' x (.pointer (some ⟨b, 0, none⟩)) M.keys ∧ w.heap.size ≤ x ∧ x < w'.heap.size ∧ Below w.heap.size w w' := by
  have hk := keys_any_s b bw bs M w hT h hI.fit (full_n hI)
  have hkl := keys_len hI
  go_enter Tryz.func80, Tryz.ntmps80
  go_wp2_with fail
  refine hk.mono ?_
  rintro e w1 ⟨g, rfl, hg, ho, hb⟩
  have hg2 := (World.ownsRow.lt ho g rfl).2
  have hr : RowT w1 (.slice (some ⟨g, 0, none⟩) M.n M.n) M.keys := RowT.of_owns (B := 0) (by unfold OwnsT; rw [hkl]; exact ho)
  obtain ⟨v, hw1, hw2⟩ := wk_new w1 (.pointer (some ⟨b, 0, none⟩)) (.slice (some ⟨g, 0, none⟩) M.n M.n) 141 M.keys hr
  rw [heap_alloc_new] at hw1
  simp only [Option.some.injEq, Obj.cells.injEq] at hw1
  have hv : Value.slice (some ⟨g, 0, none⟩) M.n M.n = v := by
    have := hw1.1
    simpa using this
  subst hv
  clear hk ho hw1
  go_wp2
  go_ret
  refine ⟨_, rfl, ⟨_, heap_alloc_new _ _, hw2, ?_⟩, hb.size, by simp, hb.alloc hb.size _⟩
  intro g' o n c e
  cases e
  exact ⟨hg, by simp; omega⟩

set_option maxRecDepth 10000 in
set_option maxHeartbeats 2000000 in
theorem wnextG_any_s (G : Nat → Prop) (x b bw bs : Nat) (M : SM) (xs : List ByteArray) (w : World) (hT : Tab w) (h : Lies 74 71 w b bw bs M) (hI : M.Inv IsV_s) (hs : ∀ k ∈ xs, k.size < 140737488355328) (hx0 : 0 < x) (hW : WkG G 141 w x (.pointer (some ⟨b, 0, none⟩)) xs) :
    Calls Tryz.prog 81 #[.pointer (some ⟨x, 0, none⟩)] w fun e w' => e = .returned (.tuple #[.string (M.nk xs), .string (M.nv xs), .bool (M.nb xs)]) ∧ WkG G 141 w' x (.pointer (some ⟨b, 0, none⟩)) (M.skip xs).tail ∧ But [x] w w' := by
  obtain ⟨_, hW1, _⟩ := id hW.wk
  go_enter Tryz.func81, Tryz.ntmps81
  go_wp2
  go_loopw [3] (fun v wr => v = .string ⟨#[]⟩ ∧ ∃ ys, (∃ pre, xs = pre ++ ys) ∧ Hid (M.skip xs = M.skip ys) ∧ WkG G 141 wr x (.pointer (some ⟨b, 0, none⟩)) ys ∧ But [x] w wr) (fun _ wr => aheadN x wr)
  case atStart => exact ⟨rfl, xs, ⟨[], rfl⟩, rfl, hW, But.refl _ _⟩
  case round =>
    obtain ⟨rfl, ys, ⟨pre, hpre⟩, hsk, hWr, hbr⟩ := hrel
    have hleft := left_any_s x _ ys wr hWr.wk
    cases ys with
    | nil =>
      clear hpre hs
      go_wp2_with fail
      refine same_mono hleft ?_
      go_wp2
      go_ret3
      refine ⟨?_, by rw [hsk.out]; exact hWr, hbr⟩
      unfold SM.nk SM.nv SM.nb
      rw [hsk.out]
      rfl
    | cons k r =>
      have hks : k.size < 140737488355328 := hs k (by rw [hpre]; simp)
      obtain ⟨v, c0, c1, f1, hrow, hob, hGv⟩ := hWr.cells
      obtain ⟨p, c, rfl, _⟩ := id hrow
      obtain ⟨g, o, q, rfl, hn, hc, ck, ⟨cur, f, hg⟩, hif, htail⟩ := hrow.tail
      have hset := WkG.set (G := G) (m := .pointer (some ⟨b, 0, none⟩)) (by decide) hob htail (hGv.tail hif)
      have hbs : But [x] w (wr.setCell ⟨x, 1, none⟩ (.slice (some q) r.length (c - 1))) := hbr.setCell (.inl (by simp)) _
      have hL2 := h.other (by decide) hW1 hbs
      have hT2 := hbs.tab hT (by simp; omega)
      have hget := get_map_s b bw bs M k _ hT2 hL2 hI.fit hI.typed hks
      rw [get_val hI, get_is] at hget
      rw [List.length_cons] at hleft
      have hm1 := aheadN_is hWr.wk
      have hm2 := aheadN_is hset.wk
      clear hW1 hob hrow hGv
      go_wp2_with fail
      refine same_mono hleft ?_
      go_wp2_with fail
      refine hget.mono ?_
      rintro e w2 ⟨rfl, hb2⟩
      have hW2 := hset.below hb2
      have hB2 : But [x] w w2 := hbs.trans (But.of_below hb2 (Nat.le_refl _))
      have hm3 := aheadN_is hW2.wk
      clear hget hb2 hset hbs hL2 hT2 htail hif ck hg c1 c0 f1 hWr
      cases hfd : (M.find k).isSome with
      | true =>
        have hsk2 : Hid (M.skip xs = k :: r) := by show _ = _; rw [hsk.out, skip_here hfd]
        go_wp2
        go_ret3
        refine ⟨?_, by rw [hsk2.out]; exact hW2, hB2⟩
        unfold SM.nk SM.nv SM.nb
        rw [hsk2.out]
        rfl
      | false =>
        have hsk2 : Hid (M.skip xs = M.skip r) := by show _ = _; rw [hsk.out, skip_gone hfd]
        have hvz : valK M k = ⟨#[]⟩ := by unfold valK; rw [get_not hfd]
        rw [hvz]
        go_wp2
        go_roundw
        case rel => exact ⟨rfl, r, ⟨pre ++ [k], by rw [hpre]; simp⟩, hsk2, hW2, hB2⟩
        case measure => rw [hm1, hm3]; simp
end Go.Proofs.YthlghokgknkpaaaGreatDoor

/-
  The walk of corbellaw06.lives: the document's example.
-/
namespace Go.Proofs.YthlghokgknkpaaaGreatDoor
open Go.RowKit Go.Shelf

def liveK6 (i : Nat) : ByteArray := ⟨#[UInt8.ofNat (97 + i)]⟩
def liveM6 : Nat → SM
  | 0 => SM.empty 0 0 (.string ⟨#[]⟩) 1
  | i + 1 => ((liveM6 i).put (liveK6 i) (.string (liveK6 i)) (.string ⟨#[]⟩)).2.2
def deadM6 : Nat → SM
  | 0 => liveM6 3
  | j + 1 => if j = 0 then liveM6 3 else ((deadM6 j).del ((liveM6 3).keys.getD j ByteArray.empty) (.string ⟨#[]⟩)).2
theorem live6_three : (liveM6 3).keys.length = 3 := by decide +kernel
theorem dead6_end : ((deadM6 3).skip (liveM6 3).keys.tail).isEmpty = true ∧ (deadM6 3).n = 1 := by decide +kernel
theorem liveK6_size (i : Nat) : (liveK6 i).size < 140737488355328 := by show 1 < _; omega
theorem live6_inv : ∀ i, (liveM6 i).Inv IsV_s
  | 0 => (inv_empty 0 0 (.string ⟨#[]⟩) 1 (by decide) (isV_string _)).1
  | i + 1 => (inv_put (live6_inv i) (key := liveK6 i) (v := .string (liveK6 i)) (z := .string ⟨#[]⟩) (isV_string _) (isV_string _) (liveK6_size i)).1
theorem dead6_inv : ∀ j, (deadM6 j).Inv IsV_s
  | 0 => live6_inv 3
  | j + 1 => by
    unfold deadM6
    split
    · exact live6_inv 3
    · exact (inv_del (dead6_inv j) (z := .string ⟨#[]⟩) (isV_string _)).1

theorem nodup_ne : ∀ {xs : List ByteArray}, xs.Nodup → ∀ {i j : Nat}, i < xs.length → j < xs.length → i ≠ j → xs.getD i ByteArray.empty ≠ xs.getD j ByteArray.empty := by
  intro xs h i j hi hj hne e
  rw [List.getD_eq_getElem?_getD, List.getD_eq_getElem?_getD, List.getElem?_eq_getElem hj, List.getElem?_eq_getElem hi] at e
  rcases Nat.lt_or_gt_of_ne hne with hl | hl
  · exact List.pairwise_iff_getElem.1 h i j hi hj hl e
  · exact List.pairwise_iff_getElem.1 h j i hj hi hl e.symm
/-- All keys are there. -/
theorem skip_all {M : SM} {K : Value → Prop} (h : M.Inv K) {k : ByteArray} {r : List ByteArray} (hk : k ∈ M.keys) : M.skip (k :: r) = k :: r := skip_here (keys_has h hk)
end Go.Proofs.YthlghokgknkpaaaGreatDoor

/-
  Contracts: walk.All[string]; the function that it makes, as an iterator that tells all pairs.
-/
namespace Go.Proofs.YthlghokgknkpaaaGreatDoor
open Go.RowKit Go.Shelf

theorem all_any_s (p : Option Addr) (w : World) : Calls Tryz.prog 48 #[.pointer p] w fun e w' => e = .returned (.func (.func 79) #[] #[.pointer (some ⟨w.heap.size, 0, none⟩)]) ∧ w' = w.alloc (.cells #[.pointer p] 28) := by
  go_enter Tryz.func48, Tryz.ntmps48
  go_wp2
  go_ret
  exact ⟨rfl, rfl⟩
theorem But.toOutside {A B x : Nat} {X Y : World} (h : But [x] X Y) (hA : A ≤ x) (hB : x < B) : Outside A B X Y :=
  ⟨h.os, h.tape, h.output, h.size, fun k o hk ho => (h.block k (Array.getElem?_eq_some_iff.1 hk).1 (by simp; rintro rfl; rcases ho with h' | ⟨h', _⟩ <;> omega)).trans hk⟩
/-- All pairs of a map, in the order of slots. -/
def SM.pairs (M : SM) : List (ByteArray × ByteArray) := M.keys.map fun k => (k, valK M k)
theorem pairs_take {M : SM} {j : Nat} (hj : j < M.keys.length) : M.pairs.take j ++ [(M.keys.getD j ByteArray.empty, valK M (M.keys.getD j ByteArray.empty))] = M.pairs.take (j + 1) := by
  have hl : j < M.pairs.length := by unfold SM.pairs; rw [List.length_map]; exact hj
  rw [List.take_succ_eq_append_getElem hl]
  congr 2
  simp [SM.pairs, List.getD_eq_getElem?_getD, List.getElem?_eq_getElem hj]
theorem drop_cons {xs : List ByteArray} {j : Nat} (hj : j < xs.length) : xs.drop j = xs.getD j ByteArray.empty :: xs.drop (j + 1) := by
  rw [List.drop_eq_getElem_cons hj]
  simp [List.getD_eq_getElem?_getD, List.getElem?_eq_getElem hj]

set_option maxRecDepth 100000 in
set_option maxHeartbeats 4000000 in
theorem all1_seq (b bw bs Bm N : Nat) (M : SM) (w : World) (hT : Tab w) (h : Lies 74 71 w b bw bs M) (hI : M.Inv IsV_s) (hm : Boxed w Bm 28 (.pointer (some ⟨b, 0, none⟩))) (hN : b < N ∧ bw < N ∧ bs < N) (hBm : Bm < N) (hNw : N ≤ w.heap.size) :
    SeqV Tryz.prog 79 #[] #[.pointer (some ⟨Bm, 0, none⟩)] (fun x : ByteArray × ByteArray => #[.string x.1, .string x.2]) 0 N M.pairs w := by
  intro l J Jx W hK hJ hJx hY h0
  have hW := h.keeps hK hN
  have hTW := hT.keeps hK (by omega)
  have hWz := hK.size
  have c0 := (hK.box hm (Nat.zero_le _) hBm).cell
  have hks : ∀ k ∈ M.keys, k.size < 140737488355328 := fun k hk => keys_size hI hk
  refine (callsIn_wide (n := 3)).1 ?_
  refine callsIn_of_wp Tryz.func79 rfl trivial ?_ rfl
  simp only [Tryz.ntmps79, List.size_toArray, List.length_cons, List.length_nil, Nat.reduceAdd, Nat.reduceSub, Array.replicate_succ, Array.replicate_zero, List.push_toArray, List.append_toArray, List.nil_append, List.cons_append]
  gi_wp2_with (refine ⟨trivial, ?_⟩; gi_at_call 80; refine (callsIn_wide.2 (wnewG_any_s b bw bs M _ hTW hW hI)).mono ?_; rintro e X ⟨x, rfl, hx, hx1, hx2, hX⟩)
  have hXz := hX.size
  have hJ0 := h0 X hX
  have hkX : Keeps 0 N W X := Keeps.of_below hX (by omega)
  gi_loopw [] (fun wr => ∃ j : Nat, j ≤ M.keys.length ∧ X.heap.size ≤ wr.heap.size ∧ Keeps 0 N W wr ∧ WkG (fun g => W.heap.size ≤ g ∧ g < X.heap.size) 141 wr x (.pointer (some ⟨b, 0, none⟩)) (M.keys.drop j) ∧ J X.heap.size (M.pairs.take j) wr) (fun wr => aheadN x wr)
  case atStart => exact ⟨0, Nat.zero_le _, Nat.le_refl _, hkX, hx, hJ0⟩
  case round =>
    obtain ⟨j, hj, hz, hkp, hwk, hJj⟩ := hrel
    clear hx hJ0 hkX
    have hmz := aheadN_is hwk.wk
    have hnx := wnextG_any_s _ x b bw bs M (M.keys.drop j) wr (hTW.keeps hkp (by omega)) (hW.keeps hkp hN) hI (fun k hk => hks k (List.mem_of_mem_drop hk)) (by omega) hwk
    clear hwk
    by_cases hjl : j < M.keys.length
    · have hsk : M.skip (M.keys.drop j) = M.keys.getD j ByteArray.empty :: M.keys.drop (j + 1) := by
        rw [drop_cons hjl]
        exact skip_all hI (getD_mem hjl)
      have hpt := pairs_take hjl
      rw [show M.nk (M.keys.drop j) = M.keys.getD j ByteArray.empty by unfold SM.nk; rw [hsk]; rfl, show M.nv (M.keys.drop j) = valK M (M.keys.getD j ByteArray.empty) by unfold SM.nv; rw [hsk], show M.nb (M.keys.drop j) = true by unfold SM.nb; rw [hsk], hsk, List.tail_cons] at hnx
      clear hsk
      generalize M.keys.getD j ByteArray.empty = k at *
      generalize valK M k = v at *
      have hpre : M.pairs.take j ++ [(k, v)] <+: M.pairs := by rw [hpt]; exact List.take_prefix _ _
      gi_wp2_with (refine ⟨trivial, ?_⟩; gi_at_call 81; refine (callsIn_wide.2 hnx).mono ?_; rintro e Y ⟨rfl, hwY, hbY⟩; obtain ⟨fn, tmps, assign, body, hy, hR⟩ := YieldAt.wide (m' := 2) (hY X.heap.size (M.pairs.take j) (k, v) Y hXz (Nat.le_trans hz hbY.size) hpre (hJ _ _ wr Y hXz hJj (hbY.toOutside hx1 hx2))); dsimp only at hy)
      refine hR.mono ?_
      clear hR hy
      rintro e Z ⟨bb, rfl, hk1, hk2, hb⟩
      have hzY := hbY.size
      have hzZ := hk2.size
      have hkZ : Keeps 0 N W Z := (hkp.trans (hbY.keeps (by simp; omega) (by omega))).trans hk1
      have hwZ := hwY.keeps hk2 ⟨hx1, hx2⟩
      have hmZ := aheadN_is hwZ.wk
      rw [hpt] at hb
      cases bb with
      | true =>
        rw [if_pos rfl] at hb
        gi_wp2
        go_roundw
        case rel => exact ⟨j + 1, by omega, by omega, hkZ, hwZ, hb⟩
        case measure =>
          rw [hmZ, hmz, List.length_drop, List.length_drop]
          omega
      | false =>
        rw [if_neg (by simp)] at hb
        gi_wp2
        refine bodyPost_ret (results_none rfl _ _ _) rfl ?_
        exact ⟨⟨_, rfl⟩, X.heap.size, hXz, .inr ⟨_, List.take_prefix _ _, hb⟩⟩
    · obtain rfl : j = M.keys.length := by omega
      have hsk : M.skip (M.keys.drop M.keys.length) = [] := by rw [List.drop_eq_nil_of_le (Nat.le_refl _)]; rfl
      have hpt : M.pairs.take M.keys.length = M.pairs := List.take_of_length_le (by unfold SM.pairs; simp)
      rw [show M.nk (M.keys.drop M.keys.length) = ⟨#[]⟩ by unfold SM.nk; rw [hsk]; rfl, show M.nv (M.keys.drop M.keys.length) = ⟨#[]⟩ by unfold SM.nv; rw [hsk], show M.nb (M.keys.drop M.keys.length) = false by unfold SM.nb; rw [hsk]] at hnx
      rw [hpt] at hJj
      clear hsk hpt
      gi_wp2_with (refine ⟨trivial, ?_⟩; gi_at_call 81; refine (callsIn_wide.2 hnx).mono ?_; rintro e Y ⟨rfl, hwY, hbY⟩)
      refine ⟨(fun _ h => by cases h), ?_⟩
      gi_wp2
      refine bodyPost_ret (results_none rfl _ _ _) rfl ?_
      exact ⟨⟨_, rfl⟩, X.heap.size, hXz, .inl (hJ _ _ wr Y hXz hJj (hbY.toOutside hx1 hx2))⟩
end Go.Proofs.YthlghokgknkpaaaGreatDoor
