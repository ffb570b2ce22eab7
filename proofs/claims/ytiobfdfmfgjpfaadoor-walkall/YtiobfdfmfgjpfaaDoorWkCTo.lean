import Derived.Test.YtiobfdfmfgjpfaaDoorWkLTo
/-
  Contracts: walk.All[string]; the function that it makes, as an iterator that tells all pairs.
-/
namespace Go.Proofs.YtiobfdfmfgjpfaaDoor
open Go.RowKit Go.Shelf

theorem all_any_s (p : Option Addr) (w : World) : Calls Tryd.prog 22 #[.pointer p] w fun e w' => e = .returned (.func (.func 47) #[] #[.pointer (some ⟨w.heap.size, 0, none⟩)]) ∧ w' = w.alloc (.cells #[.pointer p] 26) := by
  go_enter Tryd.func22, Tryd.ntmps22
  go_wp2
  go_ret
  exact ⟨rfl, rfl⟩
theorem But.toOutside {A B x : Nat} {X Y : World} (h : But [x] X Y) (hA : A ≤ x) (hB : x < B) : Outside A B X Y :=
  ⟨h.os, h.tape, h.output, h.size, fun k o hk ho => (h.block k (Array.getElem?_eq_some_iff.1 hk).1 (by simp; rintro rfl; rcases ho with h' | ⟨h', _⟩ <;> omega)).trans hk⟩
/-- All pairs of a map, in the order of slots. -/
def SM.pairs (M : SM) : List (ByteArray × ByteArray) := M.keys.map fun k => (k, valK M k)
theorem pairs_take {M : SM} {j : Nat} (hj : j < M.keys.length) : M.pairs.take j ++ [(M.keys.getD j ByteArray.empty, valK M (M.keys.getD j ByteArray.empty))] = M.pairs.take (j + 1) := by
  have hl : j < M.pairs.length := by unfold SM.pairs; rw [List.length_map]; exact hj
  rw [List.take_succ_eq_append_getElem hl]
  congr 2
  simp [SM.pairs, List.getD_eq_getElem?_getD, List.getElem?_eq_getElem hj]
theorem drop_cons {xs : List ByteArray} {j : Nat} (hj : j < xs.length) : xs.drop j = xs.getD j ByteArray.empty :: xs.drop (j + 1) := by
  rw [List.drop_eq_getElem_cons hj]
  simp [List.getD_eq_getElem?_getD, List.getElem?_eq_getElem hj]

set_option maxRecDepth 100000 in
set_option maxHeartbeats 4000000 in
theorem all1_seq (b bw bs Bm N : Nat) (M : SM) (w : World) (hT : Tab w) (h : Lies 81 77 w b bw bs M) (hI : M.Inv IsV_s) (hm : Boxed w Bm 26 (.pointer (some ⟨b, 0, none⟩))) (hN : b < N ∧ bw < N ∧ bs < N) (hBm : Bm < N) (hNw : N ≤ w.heap.size) :
    SeqV Tryd.prog 47 #[] #[.pointer (some ⟨Bm, 0, none⟩)] (fun x : ByteArray × ByteArray => #[.string x.1, .string x.2]) 0 N M.pairs w := by
  intro l J Jx W hK hJ hJx hY h0
  have hW := h.keeps hK hN
  have hTW := hT.keeps hK (by omega)
  have hWz := hK.size
  have c0 := (hK.box hm (Nat.zero_le _) hBm).cell
  have hks : ∀ k ∈ M.keys, k.size < 140737488355328 := fun k hk => keys_size hI hk
  refine (callsIn_wide (n := 3)).1 ?_
  refine callsIn_of_wp Tryd.func47 rfl trivial ?_ rfl
  simp only [Tryd.ntmps47, List.size_toArray, List.length_cons, List.length_nil, Nat.reduceAdd, Nat.reduceSub, Array.replicate_succ, Array.replicate_zero, List.push_toArray, List.append_toArray, List.nil_append, List.cons_append]
  gi_wp2_with (refine ⟨trivial, ?_⟩; gi_at_call 13; refine (callsIn_wide.2 (wnewG_any_s b bw bs M _ hTW hW hI)).mono ?_; rintro e X ⟨x, rfl, hx, hx1, hx2, hX⟩)
  have hXz := hX.size
  have hJ0 := h0 X hX
  have hkX : Keeps 0 N W X := Keeps.of_below hX (by omega)
  gi_loopw [] (fun wr => ∃ j : Nat, j ≤ M.keys.length ∧ X.heap.size ≤ wr.heap.size ∧ Keeps 0 N W wr ∧ WkG (fun g => W.heap.size ≤ g ∧ g < X.heap.size) 89 wr x (.pointer (some ⟨b, 0, none⟩)) (M.keys.drop j) ∧ J X.heap.size (M.pairs.take j) wr) (fun wr => aheadN x wr)
  case atStart => exact ⟨0, Nat.zero_le _, Nat.le_refl _, hkX, hx, hJ0⟩
  case round =>
    obtain ⟨j, hj, hz, hkp, hwk, hJj⟩ := hrel
    clear hx hJ0 hkX
    have hmz := aheadN_is hwk.wk
    have hnx := wnextG_any_s _ x b bw bs M (M.keys.drop j) wr (hTW.keeps hkp (by omega)) (hW.keeps hkp hN) hI (fun k hk => hks k (List.mem_of_mem_drop hk)) (by omega) hwk
    clear hwk
    by_cases hjl : j < M.keys.length
    · have hsk : M.skip (M.keys.drop j) = M.keys.getD j ByteArray.empty :: M.keys.drop (j + 1) := by
        rw [drop_cons hjl]
        exact skip_all hI (getD_mem hjl)
      have hpt := pairs_take hjl
      rw [show M.nk (M.keys.drop j) = M.keys.getD j ByteArray.empty by unfold SM.nk; rw [hsk]; rfl, show M.nv (M.keys.drop j) = valK M (M.keys.getD j ByteArray.empty) by unfold SM.nv; rw [hsk], show M.nb (M.keys.drop j) = true by unfold SM.nb; rw [hsk], hsk, List.tail_cons] at hnx
      clear hsk
      generalize M.keys.getD j ByteArray.empty = k at *
      generalize valK M k = v at *
      have hpre : M.pairs.take j ++ [(k, v)] <+: M.pairs := by rw [hpt]; exact List.take_prefix _ _
      gi_wp2_with (refine ⟨trivial, ?_⟩; gi_at_call 17; refine (callsIn_wide.2 hnx).mono ?_; rintro e Y ⟨rfl, hwY, hbY⟩; obtain ⟨fn, tmps, assign, body, hy, hR⟩ := YieldAt.wide (m' := 2) (hY X.heap.size (M.pairs.take j) (k, v) Y hXz (Nat.le_trans hz hbY.size) hpre (hJ _ _ wr Y hXz hJj (hbY.toOutside hx1 hx2))); dsimp only at hy)
      refine hR.mono ?_
      clear hR hy
      rintro e Z ⟨bb, rfl, hk1, hk2, hb⟩
      have hzY := hbY.size
      have hzZ := hk2.size
      have hkZ : Keeps 0 N W Z := (hkp.trans (hbY.keeps (by simp; omega) (by omega))).trans hk1
      have hwZ := hwY.keeps hk2 ⟨hx1, hx2⟩
      have hmZ := aheadN_is hwZ.wk
      rw [hpt] at hb
      cases bb with
      | true =>
        rw [if_pos rfl] at hb
        gi_wp2
        go_roundw
        case rel => exact ⟨j + 1, by omega, by omega, hkZ, hwZ, hb⟩
        case measure =>
          rw [hmZ, hmz, List.length_drop, List.length_drop]
          omega
      | false =>
        rw [if_neg (by simp)] at hb
        gi_wp2
        refine bodyPost_ret (results_none rfl _ _ _) rfl ?_
        exact ⟨⟨_, rfl⟩, X.heap.size, hXz, .inr ⟨_, List.take_prefix _ _, hb⟩⟩
    · obtain rfl : j = M.keys.length := by omega
      have hsk : M.skip (M.keys.drop M.keys.length) = [] := by rw [List.drop_eq_nil_of_le (Nat.le_refl _)]; rfl
      have hpt : M.pairs.take M.keys.length = M.pairs := List.take_of_length_le (by unfold SM.pairs; simp)
      rw [show M.nk (M.keys.drop M.keys.length) = ⟨#[]⟩ by unfold SM.nk; rw [hsk]; rfl, show M.nv (M.keys.drop M.keys.length) = ⟨#[]⟩ by unfold SM.nv; rw [hsk], show M.nb (M.keys.drop M.keys.length) = false by unfold SM.nb; rw [hsk]] at hnx
      rw [hpt] at hJj
      clear hsk hpt
      gi_wp2_with (refine ⟨trivial, ?_⟩; gi_at_call 17; refine (callsIn_wide.2 hnx).mono ?_; rintro e Y ⟨rfl, hwY, hbY⟩)
      refine ⟨(fun _ h => by cases h), ?_⟩
      gi_wp2
      refine bodyPost_ret (results_none rfl _ _ _) rfl ?_
      exact ⟨⟨_, rfl⟩, X.heap.size, hXz, .inl (hJ _ _ wr Y hXz hJj (hbY.toOutside hx1 hx2))⟩
end Go.Proofs.YtiobfdfmfgjpfaaDoor

/-
  The mathematics of WalkOnce: which keys were told, and which are gone.
-/
namespace Go.Proofs.YtiobfdfmfgjpfaaDoor
open Go.RowKit Go.Shelf

/-- So far: of the keys of the beginning (bg) those ahead of pos were told once, or are gone; those behind it were not told; who is not gone is there. -/
structure Told (M : SM) (bg : List ByteArray) (pos : Nat) (gs : List Bool) (ts : List Nat) : Prop where
  lg : gs.length = bg.length
  lt : ts.length = bg.length
  le : pos ≤ bg.length
  there : ∀ j, j < bg.length → gs.getD j false = false → (M.find (bg.getD j ByteArray.empty)).isSome = true
  done : ∀ j, j < pos → ts.getD j 0 = 1 ∨ (ts.getD j 0 = 0 ∧ gs.getD j false = true)
  ahead : ∀ j, pos ≤ j → j < bg.length → ts.getD j 0 = 0
/-- At the end. -/
def AllTold (bg : List ByteArray) (gs : List Bool) (ts : List Nat) : Prop := ∀ j, j < bg.length → ts.getD j 0 = 1 ∨ (ts.getD j 0 = 0 ∧ gs.getD j false = true)

theorem getD_rep {α : Type} (n j : Nat) (a : α) : (List.replicate n a).getD j a = a := by
  rw [List.getD_eq_getElem?_getD, List.getElem?_replicate]
  split <;> rfl
theorem told_start {M : SM} (h : M.Inv IsV_s) : Told M M.keys 0 (List.replicate M.keys.length false) (List.replicate M.keys.length 0) :=
  ⟨by simp, by simp, Nat.zero_le _, fun j hj _ => keys_has h (getD_mem hj), fun j hj => by omega, fun j _ _ => getD_rep _ _ _⟩
theorem find_some_iff {M : SM} (h : M.Inv IsV_s) {k : ByteArray} : (M.find k).isSome = true ↔ ∃ v, M.Has k v := by
  constructor
  · intro hs
    cases hf : M.find k with
    | none => rw [hf] at hs; cases hs
    | some p => exact ⟨(M.s p).2, (has_find h).2 ⟨p, hf, rfl⟩⟩
  · rintro ⟨v, hv⟩
    obtain ⟨p, hp, _⟩ := (has_find h).1 hv
    rw [hp]
    rfl
theorem told_put {M : SM} (h : M.Inv IsV_s) {bg : List ByteArray} {pos : Nat} {gs : List Bool} {ts : List Nat} (ht : Told M bg pos gs ts) {key v : ByteArray} (hk : key.size < 140737488355328) (hn : M.n < 2000) : Told (M.put key (.string v) (.string ⟨#[]⟩)).2.2 bg pos gs ts := by
  obtain ⟨i1, _, _, i4⟩ := inv_put h (key := key) (v := .string v) (z := .string ⟨#[]⟩) (isV_string _) (isV_string _) hk
  obtain ⟨_, _, _, j4⟩ := i4 hn
  refine ⟨ht.lg, ht.lt, ht.le, fun j hj hg => ?_, ht.done, ht.ahead⟩
  obtain ⟨u, hu⟩ := (find_some_iff h).1 (ht.there j hj hg)
  refine (find_some_iff i1).2 ?_
  by_cases e : bg.getD j ByteArray.empty = key
  · exact ⟨.string v, (j4 _ _).2 (.inl ⟨e, rfl⟩)⟩
  · exact ⟨u, (j4 _ _).2 (.inr ⟨e, hu⟩)⟩
/-- Which keys are gone once the first j were looked at. -/
def goneTo (bg : List ByteArray) (gs : List Bool) (key : ByteArray) (j : Nat) : List Bool := (List.range bg.length).map fun q => gs.getD q false || (decide (q < j) && decide (bg.getD q ByteArray.empty = key))
theorem goneTo_len (bg : List ByteArray) (gs : List Bool) (key : ByteArray) (j : Nat) : (goneTo bg gs key j).length = bg.length := by simp [goneTo]
theorem goneTo_at {bg : List ByteArray} {gs : List Bool} {key : ByteArray} {j q : Nat} (hq : q < bg.length) : (goneTo bg gs key j).getD q false = (gs.getD q false || (decide (q < j) && decide (bg.getD q ByteArray.empty = key))) := by
  unfold goneTo
  rw [List.getD_eq_getElem?_getD, List.getElem?_map, List.getElem?_range hq]
  rfl
theorem ext_getD {α : Type} (d : α) {xs ys : List α} (hl : xs.length = ys.length) (h : ∀ q, q < xs.length → xs.getD q d = ys.getD q d) : xs = ys := by
  refine List.ext_getElem hl fun i h1 h2 => ?_
  have := h i h1
  simpa [List.getD_eq_getElem?_getD, List.getElem?_eq_getElem h1, List.getElem?_eq_getElem h2] using this
theorem goneTo_zero {bg : List ByteArray} {gs : List Bool} {key : ByteArray} (hl : gs.length = bg.length) : goneTo bg gs key 0 = gs := by
  refine ext_getD false (by rw [goneTo_len, hl]) fun q hq => ?_
  rw [goneTo_len] at hq
  rw [goneTo_at hq]
  simp
theorem goneTo_step {bg : List ByteArray} {gs : List Bool} {key : ByteArray} {j : Nat} : (goneTo bg gs key j).set j (gs.getD j false || decide (bg.getD j ByteArray.empty = key)) = goneTo bg gs key (j + 1) := by
  refine ext_getD false (by rw [List.length_set, goneTo_len, goneTo_len]) fun q hq => ?_
  rw [List.length_set, goneTo_len] at hq
  rw [getD_set, goneTo_at hq, goneTo_at hq, goneTo_len]
  by_cases e : q = j
  · subst e
    rw [if_pos ⟨rfl, hq⟩, decide_eq_true (by omega : q < q + 1), Bool.true_and]
  · rw [if_neg (fun h => e h.1)]
    congr 2
    simp only [decide_eq_decide]
    omega
theorem told_del {M : SM} (h : M.Inv IsV_s) {bg : List ByteArray} {pos : Nat} {gs : List Bool} {ts : List Nat} (ht : Told M bg pos gs ts) {key : ByteArray} : Told (M.del key (.string ⟨#[]⟩)).2 bg pos (goneTo bg gs key bg.length) ts := by
  obtain ⟨i1, _, _, _, _, _, j4⟩ := inv_del h (key := key) (z := .string ⟨#[]⟩) (isV_string _)
  refine ⟨goneTo_len _ _ _ _, ht.lt, ht.le, fun j hj hg => ?_, fun j hj => ?_, ht.ahead⟩
  · rw [goneTo_at hj] at hg
    simp only [Bool.or_eq_false_iff, Bool.and_eq_false_iff, decide_eq_false_iff_not] at hg
    obtain ⟨u, hu⟩ := (find_some_iff h).1 (ht.there j hj hg.1)
    exact (find_some_iff i1).2 ⟨u, (j4 _ _).2 ⟨hg.2.resolve_left (by omega), hu⟩⟩
  · have hle := ht.le
    rcases ht.done j hj with h1 | ⟨h1, h2⟩
    · exact .inl h1
    · refine .inr ⟨h1, ?_⟩
      rw [goneTo_at (by omega), h2]
      rfl
theorem drop_at {bg : List ByteArray} {pos : Nat} {pre l : List ByteArray} (e : bg.drop pos = pre ++ l) {j : Nat} (h1 : pos ≤ j) (h2 : j < pos + pre.length) : bg.getD j ByteArray.empty ∈ pre := by
  have : (bg.drop pos)[j - pos]? = pre[j - pos]? := by rw [e, List.getElem?_append_left (by omega)]
  rw [List.getElem?_drop, show pos + (j - pos) = j by omega, List.getElem?_eq_getElem (show j - pos < pre.length by omega)] at this
  rw [List.getD_eq_getElem?_getD, this]
  exact List.getElem_mem _
theorem told_end {M : SM} {bg : List ByteArray} {pos : Nat} {gs : List Bool} {ts : List Nat} (ht : Told M bg pos gs ts) (hs : M.skip (bg.drop pos) = []) : AllTold bg gs ts := by
  obtain ⟨pre, e, hp, _⟩ := skip_split M (bg.drop pos)
  have hpl : bg.length - pos = pre.length := by rw [← List.length_drop, e, hs, List.append_nil]
  intro j hj
  by_cases hjp : j < pos
  · exact ht.done j hjp
  · refine .inr ⟨ht.ahead j (by omega) hj, ?_⟩
    cases hg : gs.getD j false with
    | true => rfl
    | false =>
      have h1 := ht.there j hj hg
      rw [hp _ (drop_at e (by omega) (by omega))] at h1
      cases h1
theorem told_next {M : SM} {bg : List ByteArray} {pos : Nat} {gs : List Bool} {ts : List Nat} (ht : Told M bg pos gs ts) {k : ByteArray} {r : List ByteArray} (hs : M.skip (bg.drop pos) = k :: r) :
    ∃ p, pos ≤ p ∧ p < bg.length ∧ bg.getD p ByteArray.empty = k ∧ r = bg.drop (p + 1) ∧ ts.getD p 0 = 0 ∧ (M.find k).isSome = true ∧ Told M bg (p + 1) gs (ts.set p 1) := by
  obtain ⟨pre, e, hp, hk⟩ := skip_split M (bg.drop pos)
  rw [hs] at e
  have hpl : bg.length - pos = pre.length + (r.length + 1) := by rw [← List.length_drop, e, List.length_append, List.length_cons]
  have hlt : pos + pre.length < bg.length := by omega
  have hkk : bg.getD (pos + pre.length) ByteArray.empty = k := by
    have : (bg.drop pos)[pre.length]? = some k := by rw [e, List.getElem?_append_right (Nat.le_refl _), Nat.sub_self]; rfl
    rw [List.getElem?_drop] at this
    rw [List.getD_eq_getElem?_getD, this]
    rfl
  have hr : r = bg.drop (pos + pre.length + 1) := by
    have : (bg.drop pos).drop (pre.length + 1) = r := by rw [e, List.drop_append, List.drop_eq_nil_of_le (by omega), show pre.length + 1 - pre.length = 1 by omega]; rfl
    rw [List.drop_drop] at this
    rw [← this]
    rfl
  refine ⟨pos + pre.length, by omega, hlt, hkk, hr, ht.ahead _ (by omega) hlt, hk k r hs, ⟨ht.lg, by rw [List.length_set]; exact ht.lt, by omega, ht.there, fun j hj => ?_, fun j hj hj2 => ?_⟩⟩
  · rw [getD_set]
    by_cases ej : j = pos + pre.length
    · rw [if_pos ⟨ej, by rw [ht.lt]; exact hlt⟩]
      exact .inl rfl
    · rw [if_neg (fun h => ej h.1)]
      by_cases hjp : j < pos
      · exact ht.done j hjp
      · refine .inr ⟨ht.ahead j (by omega) (by omega), ?_⟩
        cases hg : gs.getD j false with
        | true => rfl
        | false =>
          have h1 := ht.there j (by omega) hg
          rw [hp _ (drop_at e (by omega) (by omega))] at h1
          cases h1
  · rw [getD_set, if_neg (fun h => by omega)]
    exact ht.ahead j (by omega) hj2
end Go.Proofs.YtiobfdfmfgjpfaaDoor

/-
  One map and a walk over it, and rows beside them: what Put, Delete, Get, Next and stores leave of them.
-/
namespace Go.Proofs.YtiobfdfmfgjpfaaDoor
open Go.RowKit Go.Shelf

/-- The map at b is M, and is the call's own. -/
def One (w wr : World) (b : Nat) (M : SM) : Prop :=
  (∃ bw bs, Lies 81 77 wr b bw bs M ∧ w.heap.size ≤ b ∧ w.heap.size ≤ bw ∧ w.heap.size ≤ bs) ∧ M.Inv IsV_s ∧ Below w.heap.size w wr
/-- The kinds of blocks that a map and a walk write. -/
def kindsM : List TypeId := [81, 22, 77, 89]
section
variable {w wr w' : World} {b x : Nat} {M : SM} {ks : List ByteArray}
theorem One.bel (h : One w wr b M) : Below w.heap.size w wr := h.2.2
theorem One.below (h : One w wr b M) (hb : Below wr.heap.size wr w') : One w w' b M := by
  obtain ⟨⟨bw, bs, h1, h2⟩, h3, h4⟩ := h
  exact ⟨⟨bw, bs, h1.below hb (Nat.le_refl _), h2⟩, h3, h4.trans (hb.mono h4.size)⟩
theorem One.put (h : One w wr b M) (hT : Tab w) (key v : ByteArray) (hk : key.size < 140737488355328) :
    Calls Tryd.prog 11 #[.pointer (some ⟨b, 0, none⟩), .string key, .string v] wr fun e w' => e = .returned (.tuple #[.bool (M.put key (.string v) (.string ⟨#[]⟩)).1, .int .i64 ((M.put key (.string v) (.string ⟨#[]⟩)).2.1 : Nat)]) ∧ One w w' b (M.put key (.string v) (.string ⟨#[]⟩)).2.2 ∧ Kinds [81, 22, 77] wr w' := by
  obtain ⟨⟨bw, bs, h1, g1, g2, g3⟩, h4, h6⟩ := h
  obtain ⟨t3, _, _, _⟩ := inv_put h4 (key := key) (v := .string v) (z := .string ⟨#[]⟩) (isV_string _) (isV_string _) hk
  refine (put_any_s b bw bs M key v wr (hT.below h6 hT.1) h1 (sane_of_inv h4) hk).mono ?_
  rintro e w' ⟨rfl, bw', bs', f1, f2, f3, f4⟩
  have := h6.size
  exact ⟨rfl, ⟨⟨bw', bs', f1, g1, by omega, by omega⟩, t3, h6.trans (f2.below (by simp; omega) h6.size)⟩, Kinds.of h1 f2⟩
theorem One.del (h : One w wr b M) (hT : Tab w) (key : ByteArray) (hk : key.size < 140737488355328) :
    Calls Tryd.prog 15 #[.pointer (some ⟨b, 0, none⟩), .string key] wr fun e w' => e = .returned (.bool (M.del key (.string ⟨#[]⟩)).1) ∧ One w w' b (M.del key (.string ⟨#[]⟩)).2 ∧ Kinds [81, 22, 77] wr w' := by
  obtain ⟨⟨bw, bs, h1, g1, g2, g3⟩, h4, h6⟩ := h
  obtain ⟨t3, _⟩ := inv_del h4 (key := key) (z := .string ⟨#[]⟩) (isV_string _)
  refine (delete_any_s b bw bs M key wr (hT.below h6 hT.1) h1 (sane_of_inv h4) hk).mono ?_
  rintro e w' ⟨rfl, f1, f2⟩
  exact ⟨rfl, ⟨⟨bw, bs, f1, g1, g2, g3⟩, t3, h6.trans (f2.below (by simp; omega) h6.size)⟩, Kinds.of h1 f2⟩
theorem One.get (h : One w wr b M) (hT : Tab w) (key : ByteArray) (hk : key.size < 140737488355328) :
    Calls Tryd.prog 21 #[.pointer (some ⟨b, 0, none⟩), .string key] wr fun e w' => e = .returned (.tuple #[.string (valK M key), .bool (M.find key).isSome]) ∧ Below wr.heap.size wr w' := by
  obtain ⟨⟨bw, bs, h1, g1, g2, g3⟩, h4, h6⟩ := h
  have := get_map_s b bw bs M key wr (hT.below h6 hT.1) h1 h4.fit h4.typed hk
  rw [get_val h4, get_is] at this
  exact this
theorem One.keys (h : One w wr b M) (hT : Tab w) :
    Calls Tryd.prog 20 #[.pointer (some ⟨b, 0, none⟩)] wr fun e w' => ∃ g, e = .returned (.slice (some ⟨g, 0, none⟩) M.n M.n) ∧ RowT w' (.slice (some ⟨g, 0, none⟩) M.n M.n) M.keys ∧ Below wr.heap.size wr w' := by
  obtain ⟨⟨bw, bs, h1, g1, g2, g3⟩, h4, h6⟩ := h
  refine (keys_any_s b bw bs M wr (hT.below h6 hT.1) h1 h4.fit (full_n h4)).mono ?_
  rintro e w' ⟨g, rfl, hg, ho, hb⟩
  exact ⟨g, rfl, RowT.of_owns (B := 0) (by unfold OwnsT; rw [keys_len h4]; exact ho), hb⟩
theorem One.other (h : One w wr b M) {t : TypeId} {k : Nat} {cc : Array Value} {f : Nat × Nat} (ht : t ∉ [81, 22, 77]) (hk : wr.heap[k]? = some (Obj.cells cc t f)) (hkw : w.heap.size ≤ k) (hb : But [k] wr w') : One w w' b M := by
  obtain ⟨⟨bw, bs, h1, g1, g2, g3⟩, h4, h6⟩ := h
  exact ⟨⟨bw, bs, h1.other ht hk hb, g1, g2, g3⟩, h4, h6.trans (hb.below (by simpa using hkw) h6.size)⟩
theorem one_new {W u : World} {c1 cw1 cs1 g : Nat} {k0 k1 : Int} (hB0 : Below w.heap.size w W) (hl1 : Lies 81 77 u c1 cw1 cs1 (SM.empty k0 k1 (.string ⟨#[]⟩) g)) (hz : isGood (g : Int) = true) (f1 : W.heap.size ≤ c1) (f2 : W.heap.size ≤ cw1) (f3 : W.heap.size ≤ cs1) (hb1 : Below W.heap.size W u) :
    One w u c1 (SM.empty k0 k1 (.string ⟨#[]⟩) g) := by
  obtain ⟨i1, _⟩ := inv_empty k0 k1 (.string ⟨#[]⟩) g hz (isV_string _)
  have e1 := hB0.size
  exact ⟨⟨cw1, cs1, hl1, by omega, by omega, by omega⟩, i1, hB0.trans (hb1.mono e1)⟩
/-- A map and a walk over it. -/
def Rove (w wr : World) (b x : Nat) (M : SM) (ks : List ByteArray) : Prop :=
  One w wr b M ∧ Wk 89 wr x (.pointer (some ⟨b, 0, none⟩)) ks ∧ w.heap.size ≤ x ∧ ∀ k ∈ ks, k.size < 140737488355328
theorem One.walk (h : One w wr b M) (hT : Tab w) :
    Calls Tryd.prog 13 #[.pointer (some ⟨b, 0, none⟩)] wr fun e w' => ∃ x, e = .returned (.pointer (some ⟨x, 0, none⟩)) ∧ Rove w w' b x M M.keys ∧ Below wr.heap.size wr w' := by
  obtain ⟨⟨bw, bs, h1, g1, g2, g3⟩, h4, h6⟩ := id h
  refine (wnew_any_s b bw bs M wr (hT.below h6 hT.1) h1 h4).mono ?_
  rintro e w' ⟨x, rfl, f1, f2, _, f3⟩
  have := h6.size
  exact ⟨x, rfl, ⟨h.below f3, f1, by omega, fun k hk => keys_size h4 hk⟩, f3⟩
theorem Rove.below (h : Rove w wr b x M ks) (hb : Below wr.heap.size wr w') : Rove w w' b x M ks := ⟨h.1.below hb, h.2.1.below hb, h.2.2⟩
theorem Rove.next (h : Rove w wr b x M ks) (hT : Tab w) :
    Calls Tryd.prog 17 #[.pointer (some ⟨x, 0, none⟩)] wr fun e w' => e = .returned (.tuple #[.string (M.nk ks), .string (M.nv ks), .bool (M.nb ks)]) ∧ Rove w w' b x M (M.skip ks).tail ∧ Kinds kindsM wr w' := by
  obtain ⟨⟨bw, bs, h1, g1, g2, g3⟩, h4, h6⟩ := id h.1
  obtain ⟨v, q1, _⟩ := id h.2.1
  have := hT.1
  have hx := h.2.2.1
  refine (wnext_any_s x b bw bs M ks wr (hT.below h6 hT.1) h1 h4 h.2.2.2 (by omega) h.2.1).mono ?_
  rintro e w' ⟨rfl, f1, f2⟩
  refine ⟨rfl, ⟨h.1.other (by decide) q1 hx f2, f1, hx, fun k hk' => h.2.2.2 k ?_⟩, (Kinds.one q1 f2).mono (by decide)⟩
  obtain ⟨pre, e, _⟩ := skip_split M ks
  rw [e]
  exact List.mem_append_right _ (List.mem_of_mem_tail hk')
theorem Rove.other (h : Rove w wr b x M ks) {t : TypeId} {k : Nat} {cc : Array Value} {f : Nat × Nat} (ht : t ∉ kindsM) (hs : t ≠ 9) (hk : wr.heap[k]? = some (Obj.cells cc t f)) (hkw : w.heap.size ≤ k) (hb : But [k] wr w') : Rove w w' b x M ks := by
  simp only [kindsM, List.mem_cons, List.not_mem_nil, or_false, not_or] at ht
  exact ⟨h.1.other (by simp only [List.mem_cons, List.not_mem_nil, or_false, not_or]; exact ⟨ht.1, ht.2.1, ht.2.2.1⟩) hk hkw hb, h.2.1.kinds (Kinds.one hk hb) (by simpa using Ne.symm hs) (by simpa using Ne.symm ht.2.2.2), h.2.2⟩

/-- A row of values in a block of its own. -/
def Blk (w : World) (g : Nat) (t : TypeId) (l : List Value) : Prop := w.heap[g]? = some (Obj.cells l.toArray t (0, 0))
theorem Blk.cell {g : Nat} {t : TypeId} {l : List Value} (h : Blk w g t l) {j : Nat} {v : Value} (hj : l[j]? = some v) : w.cell? ⟨g, j, none⟩ = some v := by
  unfold World.cell?
  dsimp only
  rw [h]
  simpa using hj
theorem Blk.free {g : Nat} {t : TypeId} {l : List Value} (h : Blk w g t l) (j : Nat) : w.frozen? ⟨g, j, none⟩ = false := by
  unfold Blk at h
  simp [World.frozen?, h]
theorem Blk.set {g : Nat} {t : TypeId} {l : List Value} (h : Blk w g t l) (j : Nat) (v : Value) : Blk (w.setCell ⟨g, j, none⟩ v) g t (l.set j v) := by
  unfold Blk at h ⊢
  simp [World.setCell, Array.getElem?_modify, h]
def boolsV (gs : List Bool) : List Value := gs.map Value.bool
def intsV (ts : List Nat) : List Value := ts.map fun n : Nat => Value.int .i64 (n : Int)
theorem boolsV_at {gs : List Bool} {j : Nat} (hj : j < gs.length) : (boolsV gs)[j]? = some (.bool (gs.getD j false)) := by simp [boolsV, List.getElem?_eq_getElem hj]
theorem intsV_at {ts : List Nat} {j : Nat} (hj : j < ts.length) : (intsV ts)[j]? = some (.int .i64 ((ts.getD j 0 : Nat) : Int)) := by simp [intsV, List.getElem?_eq_getElem hj]
/-- A map, a walk over it, the keys of the beginning, which of them are gone, how often each was told. -/
def Camp (w wr : World) (b x g1 g2 : Nat) (vb : Value) (M : SM) (ks bg : List ByteArray) (gs : List Bool) (ts : List Nat) : Prop :=
  Rove w wr b x M ks ∧ RowT wr vb bg ∧ Blk wr g1 4 (boolsV gs) ∧ Blk wr g2 3 (intsV ts) ∧ w.heap.size ≤ g1 ∧ w.heap.size ≤ g2
variable {g1 g2 : Nat} {vb : Value} {bg : List ByteArray} {gs : List Bool} {ts : List Nat}
theorem Camp.bel (h : Camp w wr b x g1 g2 vb M ks bg gs ts) : Below w.heap.size w wr := h.1.1.bel
theorem Camp.kinds (h : Camp w wr b x g1 g2 vb M ks bg gs ts) {M' : SM} {ks' : List ByteArray} (hr : Rove w w' b x M' ks') (hk : Kinds kindsM wr w') : Camp w w' b x g1 g2 vb M' ks' bg gs ts :=
  ⟨hr, h.2.1.kinds hk (by decide), hk _ _ _ _ (by decide) h.2.2.1, hk _ _ _ _ (by decide) h.2.2.2.1, h.2.2.2.2⟩
theorem Camp.below (h : Camp w wr b x g1 g2 vb M ks bg gs ts) (hb : Below wr.heap.size wr w') : Camp w w' b x g1 g2 vb M ks bg gs ts := h.kinds (h.1.below hb) (Kinds.below hb)
theorem Camp.drewN (h : Camp w wr b x g1 g2 vb M ks bg gs ts) (n : Nat) : Camp w (wr.drewN n) b x g1 g2 vb M ks bg gs ts := h.below ⟨rfl, rfl, rfl, Nat.le_refl _, fun _ _ => rfl⟩
theorem Camp.put (h : Camp w wr b x g1 g2 vb M ks bg gs ts) (hT : Tab w) (key v : ByteArray) (hk : key.size < 140737488355328) :
    Calls Tryd.prog 11 #[.pointer (some ⟨b, 0, none⟩), .string key, .string v] wr fun e w' => e = .returned (.tuple #[.bool (M.put key (.string v) (.string ⟨#[]⟩)).1, .int .i64 ((M.put key (.string v) (.string ⟨#[]⟩)).2.1 : Nat)]) ∧ Camp w w' b x g1 g2 vb (M.put key (.string v) (.string ⟨#[]⟩)).2.2 ks bg gs ts ∧ Kinds kindsM wr w' := by
  refine (h.1.1.put hT key v hk).mono ?_
  rintro e w' ⟨rfl, h1, h2⟩
  exact ⟨rfl, h.kinds ⟨h1, h.1.2.1.kinds h2 (by decide) (by decide), h.1.2.2⟩ (h2.mono (by decide)), h2.mono (by decide)⟩
theorem Camp.del (h : Camp w wr b x g1 g2 vb M ks bg gs ts) (hT : Tab w) (key : ByteArray) (hk : key.size < 140737488355328) :
    Calls Tryd.prog 15 #[.pointer (some ⟨b, 0, none⟩), .string key] wr fun e w' => e = .returned (.bool (M.del key (.string ⟨#[]⟩)).1) ∧ Camp w w' b x g1 g2 vb (M.del key (.string ⟨#[]⟩)).2 ks bg gs ts ∧ Kinds kindsM wr w' := by
  refine (h.1.1.del hT key hk).mono ?_
  rintro e w' ⟨rfl, h1, h2⟩
  exact ⟨rfl, h.kinds ⟨h1, h.1.2.1.kinds h2 (by decide) (by decide), h.1.2.2⟩ (h2.mono (by decide)), h2.mono (by decide)⟩
theorem Camp.next (h : Camp w wr b x g1 g2 vb M ks bg gs ts) (hT : Tab w) :
    Calls Tryd.prog 17 #[.pointer (some ⟨x, 0, none⟩)] wr fun e w' => e = .returned (.tuple #[.string (M.nk ks), .string (M.nv ks), .bool (M.nb ks)]) ∧ Camp w w' b x g1 g2 vb M (M.skip ks).tail bg gs ts ∧ Kinds kindsM wr w' := by
  refine (h.1.next hT).mono ?_
  rintro e w' ⟨rfl, h1, h2⟩
  exact ⟨rfl, h.kinds h1 h2, h2⟩
theorem Camp.setG (h : Camp w wr b x g1 g2 vb M ks bg gs ts) (j : Nat) (v : Bool) : Camp w (wr.setCell ⟨g1, j, none⟩ (.bool v)) b x g1 g2 vb M ks bg (gs.set j v) ts ∧ Kinds [4] wr (wr.setCell ⟨g1, j, none⟩ (.bool v)) := by
  have hb : But [g1] wr (wr.setCell ⟨g1, j, none⟩ (.bool v)) := (But.refl _ _).setCell (.inl (by simp)) _
  have hk := Kinds.one h.2.2.1 hb
  refine ⟨⟨h.1.other (by decide) (by decide) h.2.2.1 h.2.2.2.2.1 hb, h.2.1.kinds hk (by decide), ?_, hk _ _ _ _ (by decide) h.2.2.2.1, h.2.2.2.2⟩, hk⟩
  rw [show boolsV (gs.set j v) = (boolsV gs).set j (.bool v) by simp [boolsV, List.map_set]]
  exact h.2.2.1.set j _
theorem Camp.setT (h : Camp w wr b x g1 g2 vb M ks bg gs ts) (j v : Nat) : Camp w (wr.setCell ⟨g2, j, none⟩ (.int .i64 (v : Int))) b x g1 g2 vb M ks bg gs (ts.set j v) := by
  have hb : But [g2] wr (wr.setCell ⟨g2, j, none⟩ (.int .i64 (v : Int))) := (But.refl _ _).setCell (.inl (by simp)) _
  have hk := Kinds.one h.2.2.2.1 hb
  refine ⟨h.1.other (by decide) (by decide) h.2.2.2.1 h.2.2.2.2.2 hb, h.2.1.kinds hk (by decide), hk _ _ _ _ (by decide) h.2.2.1, ?_, h.2.2.2.2⟩
  rw [show intsV (ts.set j v) = (intsV ts).set j (.int .i64 (v : Int)) by simp [intsV, List.map_set]]
  exact h.2.2.2.1.set j _
end
end Go.Proofs.YtiobfdfmfgjpfaaDoor
