import Derived.Test.YtiobfdfmfgjpfaaDoorSwCiTo
/-
  Contracts: the calls of a Map[int] that no call made.
-/
namespace Go.Proofs.YtiobfdfmfgjpfaaDoor
open Go.RowKit Go.Shelf

/-- A map that no call made, in whatever memory behind w. -/
def NoMap_i (w : World) (p : Value) : Prop := ∀ X, Below w.heap.size w X → Calls Tryd.prog 67 #[p] X fun e w' => e = .returned (.bool false) ∧ w' = X

theorem noMap_nil_i (w : World) : NoMap_i w (.pointer none) := fun X _ => made_nil_i X
theorem noMap_zero_i (w : World) (b : Nat) (hb : b < w.heap.size) (h : w.cell? ⟨b, 2, none⟩ = some (.slice none 0 0)) : NoMap_i w (.pointer (some ⟨b, 0, none⟩)) := fun X hX =>
  made_any_i b 0 0 none X ((hX.cell (p := ⟨b, 2, none⟩) hb).trans h)
theorem NoMap_i.below {w w' : World} {p : Value} (h : NoMap_i w p) (hb : Below w.heap.size w w') : NoMap_i w' p := fun X hX => h X (hb.trans (hX.mono hb.size))

set_option maxHeartbeats 1000000 in
theorem find_none_i (a : Option Addr) (key : ByteArray) (w : World) (h : NoMap_i w (.pointer a)) : Calls Tryd.prog 69 #[.pointer a, .string key] w fun e w' => e = .returned (.int .i64 (-1)) ∧ Below w.heap.size w w' := by
  refine (callsIn_wide (n := 9)).1 ?_
  refine callsIn_of_wp_marks Tryd.func69 rfl trivial ?_ rfl
  simp only [Tryd.ntmps69, List.size_toArray, List.length_cons, List.length_nil, Nat.reduceAdd, Nat.reduceSub, Array.replicate_succ, Array.replicate_zero, List.push_toArray, List.append_toArray, List.nil_append, List.cons_append]
  have q0 := Boxed.new w 61 (.pointer a)
  replace q0 := q0.alloc (.cells #[.string key] 9)
  have hBq : Below w.heap.size w ((w.alloc (.cells #[.pointer a] 61)).alloc (.cells #[.string key] 9)) := ((Below.refl _ w).alloc (Nat.le_refl _) _).alloc (by simp) _
  have hmade := h _ hBq
  generalize hX0 : (w.alloc (.cells #[.pointer a] 61)).alloc (.cells #[.string key] 9) = X0 at q0 hBq hmade
  have e0 := q0.cell
  gi_wp2
  refine scope_wide ?_
  gi_wp2_with (refine ⟨trivial, ?_⟩; gi_at_call 67; refine (callsIn_wide.2 hmade).mono ?_; rintro e w' ⟨rfl, rfl⟩)
  rw [Exit.noGoto_ret]
  exact ⟨_, results_tmp rfl _ _ _, rfl, hBq⟩

theorem get_none_i (a : Option Addr) (key : ByteArray) (w : World) (h : NoMap_i w (.pointer a)) : Calls Tryd.prog 49 #[.pointer a, .string key] w fun e w' => e = .returned (.tuple #[(.int .i64 0), .bool false]) ∧ Below w.heap.size w w' := by
  have hf := find_none_i a key w h
  go_enter Tryd.func49, Tryd.ntmps49
  go_wp2_with fail
  refine hf.mono ?_
  rintro e w1 ⟨rfl, hb⟩
  go_wp2
  go_ret2
  exact ⟨rfl, hb⟩

set_option maxHeartbeats 1000000 in
theorem keys_none_i (a : Option Addr) (w : World) (h : NoMap_i w (.pointer a)) : Calls Tryd.prog 48 #[.pointer a] w fun e w' => e = .returned (.slice none 0 0) ∧ Below w.heap.size w w' := by
  refine (callsIn_wide (n := 9)).1 ?_
  refine callsIn_of_wp_marks Tryd.func48 rfl trivial ?_ rfl
  simp only [Tryd.ntmps48, List.size_toArray, List.length_cons, List.length_nil, Nat.reduceAdd, Nat.reduceSub, Array.replicate_succ, Array.replicate_zero, List.push_toArray, List.append_toArray, List.nil_append, List.cons_append]
  have q0 := Boxed.new w 61 (.pointer a)
  have hBq : Below w.heap.size w (w.alloc (.cells #[.pointer a] 61)) := (Below.refl _ w).alloc (Nat.le_refl _) _
  have hmade := h _ hBq
  generalize hX0 : w.alloc (.cells #[.pointer a] 61) = X0 at q0 hBq hmade
  have e0 := q0.cell
  gi_wp2_with (refine ⟨trivial, ?_⟩; gi_at_call 67; refine (callsIn_wide.2 hmade).mono ?_; rintro e w' ⟨rfl, rfl⟩)
  exact ⟨_, results_tmp rfl _ _ _, rfl, hBq⟩
end Go.Proofs.YtiobfdfmfgjpfaaDoor

/-
  Contracts: walks over ints that no call made, or over no map.
-/
namespace Go.Proofs.YtiobfdfmfgjpfaaDoor
open Go.RowKit Go.Shelf

theorem left_nil_i (w : World) : Calls Tryd.prog 26 #[.pointer none] w fun e w' => e = .returned (.int .i64 0) ∧ w' = w := by
  go_enter Tryd.func26, Tryd.ntmps26
  go_wp2
  go_ret
  exact ⟨rfl, rfl⟩
theorem left_end_i (x : Nat) (m : Value) (w : World) (h : Wk 63 w x m []) : Calls Tryd.prog 26 #[.pointer (some ⟨x, 0, none⟩)] w fun e w' => e = .returned (.int .i64 0) ∧ w' = w := by
  obtain ⟨v, c0, c1, f1, ⟨p, c, rfl, h1, h2, h3⟩, _⟩ := h.cells
  clear h3
  go_enter Tryd.func26, Tryd.ntmps26
  go_wp2
  go_ret
  exact ⟨rfl, rfl⟩
/-- A walk that has nothing ahead. -/
def NoWalk (w : World) (a : Option Addr) : Prop := ∀ X, Below w.heap.size w X → Calls Tryd.prog 26 #[.pointer a] X fun e w' => e = .returned (.int .i64 0) ∧ w' = X
theorem noWalk_nil (w : World) : NoWalk w none := fun X _ => left_nil_i X
theorem noWalk_end {w : World} {x : Nat} {m : Value} (h : Wk 63 w x m []) : NoWalk w (some ⟨x, 0, none⟩) := fun X hX => left_end_i x m X (h.below hX)
set_option maxHeartbeats 1000000 in
theorem next_none_i (a : Option Addr) (w : World) (h : NoWalk w a) : Calls Tryd.prog 25 #[.pointer a] w fun e w' => e = .returned (.tuple #[.string ⟨#[]⟩, .int .i64 0, .bool false]) ∧ w' = w := by
  have hl := h w (Below.refl _ _)
  go_enter Tryd.func25, Tryd.ntmps25
  go_wp2
  go_loopw [3] (fun v wr => v = .int .i64 0 ∧ wr = w) (fun _ _ => 0)
  case atStart => exact ⟨rfl, rfl⟩
  case round =>
    obtain ⟨rfl, rfl⟩ := hrel
    go_wp2_with fail
    refine same_mono hl ?_
    go_wp2
    go_ret3
    exact ⟨rfl, rfl⟩
theorem wnew_none_i (w : World) : Calls Tryd.prog 24 #[.pointer none] w fun e w' => ∃ x, e = .returned (.pointer (some ⟨x, 0, none⟩)) ∧ Wk 63 w' x (.pointer none) [] ∧ w.heap.size ≤ x ∧ x < w'.heap.size ∧ Below w.heap.size w w' := by
  have hk := keys_none_i none w (noMap_nil_i w)
  go_enter Tryd.func24, Tryd.ntmps24
  go_wp2_with fail
  refine hk.mono ?_
  rintro e w1 ⟨rfl, hb⟩
  have hw := wk_new w1 (.pointer none) (.slice none 0 0) 63 [] (RowT.nil0 _)
  clear hk
  go_wp2
  go_ret
  exact ⟨_, rfl, hw, hb.size, by simp, hb.alloc hb.size _⟩
theorem all_none_i (w : World) : Calls Tryd.prog 27 #[.pointer none] w fun e w' => e = .returned (.func (.func 50) #[] #[.pointer (some ⟨w.heap.size, 0, none⟩)]) ∧ w' = w.alloc (.cells #[.pointer none] 61) := by
  go_enter Tryd.func27, Tryd.ntmps27
  go_wp2
  go_ret
  exact ⟨rfl, rfl⟩
set_option maxRecDepth 100000 in
set_option maxHeartbeats 2000000 in
/-- The function that All makes over no map: it tells nothing. -/
theorem all1_none_i (B0 : Nat) (w : World) (hb : Boxed w B0 61 (.pointer none)) :
    SeqV Tryd.prog 50 #[] #[.pointer (some ⟨B0, 0, none⟩)] (fun _ : Unit => #[.string ⟨#[]⟩, .int .i64 0]) B0 (B0 + 1) [] w := by
  intro l J Jx W hK hJ hJx hY h0
  have c0 := (hK.box hb (Nat.le_refl _) (by omega)).cell
  refine (callsIn_wide (n := 3)).1 ?_
  refine callsIn_of_wp Tryd.func50 rfl trivial ?_ rfl
  simp only [Tryd.ntmps50, List.size_toArray, List.length_cons, List.length_nil, Nat.reduceAdd, Nat.reduceSub, Array.replicate_succ, Array.replicate_zero, List.push_toArray, List.append_toArray, List.nil_append, List.cons_append]
  gi_wp2_with (refine ⟨trivial, ?_⟩; gi_at_call 24; refine (callsIn_wide.2 (wnew_none_i _)).mono ?_; rintro e X ⟨x, rfl, hx, hx1, hx2, hX⟩)
  have hnx := next_none_i _ X (noWalk_end hx)
  gi_loopw [] (fun wr => wr = X) (fun _ => 0)
  case atStart => exact rfl
  case round =>
    obtain rfl := hrel
    gi_wp2_with (refine ⟨trivial, ?_⟩; gi_at_call 25; refine (callsIn_wide.2 hnx).mono ?_; rintro e Y ⟨rfl, rfl⟩)
    refine ⟨(fun _ h => by cases h), ?_⟩
    gi_wp2
    refine bodyPost_ret (results_none rfl _ _ _) rfl ?_
    exact ⟨⟨_, rfl⟩, _, by have := hX.size; omega, .inl (h0 _ hX)⟩
end Go.Proofs.YtiobfdfmfgjpfaaDoor

/-
  The walk of corbellaw06.lives: the document's example.
-/
namespace Go.Proofs.YtiobfdfmfgjpfaaDoor
open Go.RowKit Go.Shelf

def liveK6 (i : Nat) : ByteArray := ⟨#[UInt8.ofNat (97 + i)]⟩
def liveM6 : Nat → SM
  | 0 => SM.empty 0 0 (.string ⟨#[]⟩) 1
  | i + 1 => ((liveM6 i).put (liveK6 i) (.string (liveK6 i)) (.string ⟨#[]⟩)).2.2
def deadM6 : Nat → SM
  | 0 => liveM6 3
  | j + 1 => if j = 0 then liveM6 3 else ((deadM6 j).del ((liveM6 3).keys.getD j ByteArray.empty) (.string ⟨#[]⟩)).2
theorem live6_three : (liveM6 3).keys.length = 3 := by decide +kernel
theorem dead6_end : ((deadM6 3).skip (liveM6 3).keys.tail).isEmpty = true ∧ (deadM6 3).n = 1 := by decide +kernel
theorem liveK6_size (i : Nat) : (liveK6 i).size < 140737488355328 := by show 1 < _; omega
theorem live6_inv : ∀ i, (liveM6 i).Inv IsV_s
  | 0 => (inv_empty 0 0 (.string ⟨#[]⟩) 1 (by decide) (isV_string _)).1
  | i + 1 => (inv_put (live6_inv i) (key := liveK6 i) (v := .string (liveK6 i)) (z := .string ⟨#[]⟩) (isV_string _) (isV_string _) (liveK6_size i)).1
theorem dead6_inv : ∀ j, (deadM6 j).Inv IsV_s
  | 0 => live6_inv 3
  | j + 1 => by
    unfold deadM6
    split
    · exact live6_inv 3
    · exact (inv_del (dead6_inv j) (z := .string ⟨#[]⟩) (isV_string _)).1
theorem infoT3 : (Tryd.prog.info? 9).map (fun i => (i.zero, i.size, i.bytes)) = some (some (.string ⟨#[]⟩), 1, 16) := by kernel_rfl
theorem index_three (x y z : Value) (W : World) : (Instr.index 74 (.agg #[x, y, z]) (.int .i64 0)).run Tryd.prog W = .ok x W ∧ (Instr.index 74 (.agg #[x, y, z]) (.int .i64 1)).run Tryd.prog W = .ok y W ∧ (Instr.index 74 (.agg #[x, y, z]) (.int .i64 2)).run Tryd.prog W = .ok z W := by
  obtain ⟨i1, hi1, hz1, hs1, hb1⟩ := info_parts infoT3
  refine ⟨?_, ?_, ?_⟩
  all_goals simp [Instr.index, asIntOf, run_underlying Tryd.underlying74, sizeOf, typeInfo, hi1, hs1, part, go_sem]
theorem nodup_ne : ∀ {xs : List ByteArray}, xs.Nodup → ∀ {i j : Nat}, i < xs.length → j < xs.length → i ≠ j → xs.getD i ByteArray.empty ≠ xs.getD j ByteArray.empty := by
  intro xs h i j hi hj hne e
  rw [List.getD_eq_getElem?_getD, List.getD_eq_getElem?_getD, List.getElem?_eq_getElem hj, List.getElem?_eq_getElem hi] at e
  rcases Nat.lt_or_gt_of_ne hne with hl | hl
  · exact List.pairwise_iff_getElem.1 h i j hi hj hl e
  · exact List.pairwise_iff_getElem.1 h j i hj hi hl e.symm
/-- All keys are there. -/
theorem skip_all {M : SM} {K : Value → Prop} (h : M.Inv K) {k : ByteArray} {r : List ByteArray} (hk : k ∈ M.keys) : M.skip (k :: r) = k :: r := skip_here (keys_has h hk)

set_option maxRecDepth 10000 in
set_option maxHeartbeats 4000000 in
theorem lives_any (w : World) (hT : Tab w) : Calls Tryd.prog 10 #[] w fun e w' => e = .returned (.bool true) ∧ Below w.heap.size w w' := by
  have hw0 := hT.1
  have hnew := new_any_s 0 0 0 w (by omega) (by omega) (by decide)
  rw [show (needI 0).toNat = 1 by decide] at hnew
  have hix := fun W => index_three (.string ⟨#[97]⟩) (.string ⟨#[98]⟩) (.string ⟨#[99]⟩) W
  go_enter Tryd.func10, Tryd.ntmps10
  go_wp2_with fail
  refine hnew.mono ?_
  rintro e w1 ⟨b, bw0, bs0, rfl, hl0, g1, g2, g3, hb1⟩
  clear hnew
  go_wp2
  go_loopw [16] (fun t wr => ∃ (i bw bs : Nat), i ≤ 3 ∧ t = .int .i64 (i : Nat) ∧ Lies 81 77 wr b bw bs (liveM6 i) ∧ w.heap.size ≤ bw ∧ w.heap.size ≤ bs ∧ Below w.heap.size w wr) (fun t _ => 3 - (intOf t).toNat)
  case atStart => exact ⟨0, bw0, bs0, by omega, rfl, hl0, g2, g3, hb1⟩
  case round =>
    obtain ⟨i, bw, bs, hi, rfl, hl, q2, q3, hb⟩ := hrel
    have hTr := hT.below hb hw0
    have hzr := hb.size
    by_cases hlt : i < 3
    · have hput := put_any_s b bw bs (liveM6 i) (liveK6 i) (liveK6 i) wr hTr hl (sane_of_inv (live6_inv i)) (liveK6_size i)
      have hlm : ((liveM6 i).put (liveK6 i) (.string (liveK6 i)) (.string ⟨#[]⟩)).2.2 = liveM6 (i + 1) := rfl
      rw [hlm] at hput
      generalize ((liveM6 i).put (liveK6 i) (.string (liveK6 i)) (.string ⟨#[]⟩)).2.1 = er at *
      generalize ((liveM6 i).put (liveK6 i) (.string (liveK6 i)) (.string ⟨#[]⟩)).1 = is at *
      clear hlm
      obtain ⟨i1, i2, i3⟩ := hix wr
      obtain rfl | rfl | rfl : i = 0 ∨ i = 1 ∨ i = 2 := by omega
      all_goals
        rw [show liveK6 _ = ⟨#[_]⟩ from rfl] at hput
        go_wp2_with fail
        refine hput.mono ?_
        rintro e w2 ⟨rfl, bw', bs', hl2, hbut, h1, h2⟩
        have hB2 : Below w.heap.size w w2 := hb.trans (hbut.below (B := w.heap.size) (by simp; omega) (by omega))
        have g2' : w.heap.size ≤ bw' := by omega
        have g3' : w.heap.size ≤ bs' := by omega
        clear hput hl hbut h1 h2
        go_wp2
        go_roundw
        case rel => exact ⟨_, bw', bs', by decide, rfl, hl2, g2', g3', hB2⟩
        case measure => simp only [intOf]; decide
    · obtain rfl : i = 3 := by omega
      have hI := live6_inv 3
      have hl3 := live6_three
      have hnd : (liveM6 3).keys.Nodup := keys_nodup hI
      have hdead : deadM6 0 = liveM6 3 := rfl
      go_wp2_with fail
      refine (wnew_any_s b bw bs (liveM6 3) wr hTr hl hI).mono ?_
      rintro e w2 ⟨x, rfl, hW, hx1, hx2, hb2⟩
      have hB2 := hb.trans (hb2.mono hzr)
      have hl2 := hl.below hb2 (Nat.le_refl _)
      have hnx := wnext_any_s x b bw bs (liveM6 3) _ w2 (hT.below hB2 hw0) hl2 hI (fun k hk => keys_size hI hk) (by omega) hW
      obtain ⟨k0, r0, hkr⟩ : ∃ k0 r0, (liveM6 3).keys = k0 :: r0 := by
        cases hk : (liveM6 3).keys with
        | nil => rw [hk] at hl3; cases hl3
        | cons a r => exact ⟨a, r, rfl⟩
      have hsk : (liveM6 3).skip (liveM6 3).keys = k0 :: r0 := by rw [hkr]; exact skip_all hI (by rw [hkr]; exact List.mem_cons_self)
      rw [show (liveM6 3).nk (liveM6 3).keys = k0 by unfold SM.nk; rw [hsk]; rfl, show (liveM6 3).nb (liveM6 3).keys = true by unfold SM.nb; rw [hsk], hsk, List.tail_cons] at hnx
      generalize (liveM6 3).nv (liveM6 3).keys = v0 at hnx
      clear hsk hl hb hTr hb1 hl0
      have hx0 : ∃ vx, w2.heap[x]? = some (Obj.cells #[.pointer (some ⟨b, 0, none⟩), vx] 89 (0, 0)) := by
        obtain ⟨vx, h1, _⟩ := hW
        exact ⟨vx, h1⟩
      obtain ⟨vx, hx0⟩ := hx0
      go_wp2_with fail
      refine hnx.mono ?_
      rintro e w3 ⟨rfl, hW3, hb3⟩
      have hl3' := hl2.other (by decide) hx0 hb3
      have hB3 := hB2.trans (hb3.below (B := w.heap.size) (by simp; omega) (by omega))
      have hz3 := hB3.size
      clear hnx hW hl2 hb2 hb3 hx0
      have hfn := full_n hI
      have hkl := keys_len hI
      go_wp2_with fail
      refine (keys_any_s b bw bs (liveM6 3) w3 (hT.below hB3 hw0) hl3' hI.fit hfn).mono ?_
      rintro e w4 ⟨gc, rfl, hgc, oc, hb4⟩
      have hB4 : Below w.heap.size w w4 := hB3.trans (hb4.mono hz3)
      have hl4 := hl3'.below hb4 (Nat.le_refl _)
      have hW4 := hW3.below hb4
      have ta : RowT w4 (.slice (some ⟨gc, 0, none⟩) (liveM6 3).n (liveM6 3).n) (liveM6 3).keys := RowT.of_owns (B := 0) (by unfold OwnsT; rw [hkl]; exact oc)
      rw [← hkl, hl3] at ta ⊢
      clear hl3' hb4 oc hW3 hB3
      go_wp2
      go_loopw [35] (fun t wr => ∃ (j bw bs : Nat), j ≤ 3 ∧ t = .int .i64 (j : Nat) ∧ Lies 81 77 wr b bw bs (deadM6 j) ∧ w.heap.size ≤ bw ∧ w.heap.size ≤ bs ∧ Wk 89 wr x (.pointer (some ⟨b, 0, none⟩)) r0 ∧ RowT wr (.slice (some ⟨gc, 0, none⟩) 3 3) (liveM6 3).keys ∧ Below w.heap.size w wr) (fun t _ => 3 - (intOf t).toNat)
      case atStart => exact ⟨0, bw, bs, by omega, rfl, hl4, q2, q3, hW4, ta, hB4⟩
      case round =>
        obtain ⟨j, bw, bs, hj, rfl, hl, q2, q3, hWr, htr, hb⟩ := hrel
        clear hl4 hW4 ta hB4
        have hTr := hT.below hb hw0
        have hzr := hb.size
        by_cases hlt : j < 3
        · obtain ⟨_, _, hpp, hnc, hjl, ck⟩ := text_at htr.has (Below.refl _ _) (Nat.le_refl _) hlt
          cases hpp
          rw [Nat.zero_add] at ck
          by_cases h0 : j = 0
          · subst h0
            rw [hkr] at ck
            have ck' : wr.cell? ⟨gc, 0, none⟩ = some (.string k0) := ck
            have hd1 : deadM6 (0 + 1) = deadM6 0 := rfl
            clear ck
            go_wp2
            go_roundw
            case rel => exact ⟨1, bw, bs, by omega, rfl, hl, q2, q3, hWr, htr, hb⟩
            case measure => simp only [intOf]; omega
          · have hks := keys_size hI (getD_mem hjl)
            have hne : ¬ (liveM6 3).keys.getD j ByteArray.empty = k0 := by
              have := nodup_ne hnd hjl (j := 0) (by rw [hl3]; omega) h0
              rw [hkr] at this ⊢
              exact this
            have hdel := delete_any_s b bw bs (deadM6 j) ((liveM6 3).keys.getD j ByteArray.empty) wr hTr hl (sane_of_inv (dead6_inv j)) hks
            have hd1 : ((deadM6 j).del ((liveM6 3).keys.getD j ByteArray.empty) (.string ⟨#[]⟩)).2 = deadM6 (j + 1) := by rw [deadM6, if_neg h0]
            rw [hd1] at hdel
            clear hd1 hks
            generalize ((deadM6 j).del ((liveM6 3).keys.getD j ByteArray.empty) (.string ⟨#[]⟩)).1 = is at *
            generalize (liveM6 3).keys.getD j ByteArray.empty = kk at *
            have hne' := str_ne hne
            go_wp2_with fail
            refine hdel.mono ?_
            rintro e w5 ⟨rfl, hl5, hbut⟩
            have hk5 := Kinds.of hl hbut
            have hB5 : Below w.heap.size w w5 := hb.trans (hbut.below (B := w.heap.size) (by simp; omega) (by omega))
            have hW5 := hWr.kinds hk5 (by decide) (by decide)
            have ht5 := htr.kinds hk5 (by decide)
            clear hdel hbut hk5 hl hWr htr
            go_wp2
            go_roundw
            case rel => exact ⟨j + 1, bw, bs, by omega, by simp, hl5, q2, q3, hW5, ht5, hB5⟩
            case measure => simp only [intOf]; omega
        · obtain rfl : j = 3 := by omega
          have hI3 := dead6_inv 3
          obtain ⟨he1, he2⟩ := dead6_end
          have he3 : (deadM6 3).skip r0 = [] := by
            rw [hkr] at he1
            exact List.isEmpty_iff.1 he1
          have hnx := wnext_any_s x b bw bs (deadM6 3) r0 wr hTr hl hI3 (fun k hk => keys_size hI (by rw [hkr]; exact List.mem_cons_of_mem _ hk)) (by omega) hWr
          rw [show (deadM6 3).nb r0 = false by unfold SM.nb; rw [he3], he3] at hnx
          generalize (deadM6 3).nk r0 = k9 at hnx
          generalize (deadM6 3).nv r0 = v9 at hnx
          obtain ⟨vx, hx0, _⟩ := id hWr
          go_wp2_with fail
          refine hnx.mono ?_
          rintro e w5 ⟨rfl, hW5, hb5⟩
          have hl5 := hl.other (by decide) hx0 hb5
          have hB5 := hb.trans (hb5.below (B := w.heap.size) (by simp; omega) (by omega))
          have hlen := len_any_s b bw bs (deadM6 3) w5 hl5 hI3.fit
          rw [he2] at hlen
          clear hnx hb5 hl hWr htr hx0 hdead
          go_wp2_with fail
          refine same_mono hlen ?_
          go_wp2_with fail
          refine same_mono (left_any_s x _ _ w5 hW5) ?_
          go_wp2
          go_ret
          exact ⟨rfl, hB5⟩
end Go.Proofs.YtiobfdfmfgjpfaaDoor
