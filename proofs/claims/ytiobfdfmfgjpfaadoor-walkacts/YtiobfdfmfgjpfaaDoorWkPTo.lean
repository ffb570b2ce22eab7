import Derived.Test.YtiobfdfmfgjpfaaDoorRM6To
import Derived.Test.YtiobfdfmfgjpfaaDoorSwB3To
import Derived.Test.YtiobfdfmfgjpfaaDoorHeldtTo
import Derived.Test.YtiobfdfmfgjpfaaDoorRM4To
/-
  Contracts: corbelref05's Put.
-/
namespace Go.Proofs.YtiobfdfmfgjpfaaDoor
open Go.RowKit Go.Shelf

set_option maxRecDepth 100000 in
set_option maxHeartbeats 4000000 in
theorem rput_any (b bw bs : Nat) (M : SM) (key : ByteArray) (sv : ByteArray) (w : World) (_h0 : 0 < w.heap.size) (h : Lies 87 84 w b bw bs M) (hS : M.Sane IsV_s) (hk : key.size < 140737488355328) :
    Calls Tryd.prog 12 #[.pointer (some ⟨b, 0, none⟩), .string key, .string sv] w fun e w' => e = .returned (.tuple #[.bool (M.put key (.string sv) (.string ⟨#[]⟩)).1, .int .i64 ((M.put key (.string sv) (.string ⟨#[]⟩)).2.1 : Nat)]) ∧
      ∃ bw' bs', Lies 87 84 w' b bw' bs' (M.put key (.string sv) (.string ⟨#[]⟩)).2.2 ∧ But [b, bw, bs] w w' ∧ (bw' = bw ∨ w.heap.size ≤ bw') ∧ (bs' = bs ∨ w.heap.size ≤ bs') := by
  have hF := hS.fit
  have hr := good_range hF.good
  have hfew := hF.few
  have hlt := h.lt
  obtain ⟨cw, cs, c0, c1, c2, c3, c4, c5, hcw, hcs⟩ := h.cells
  have hfind := rfind_any b bw bs M key w h hF hk
  cases hfd : M.find key with
  | some p =>
    obtain ⟨hp1, _, _, _⟩ := find_some hF hfd
    have hput : M.put key (.string sv) (.string ⟨#[]⟩) = (true, 0, { M with ss := M.ss.set p ((M.s p).1, .string sv) }) := by unfold SM.put; rw [hfd]
    rw [hput]
    rw [hfd] at hfind
    clear hput hfd
    go_enter Tryd.func12, Tryd.ntmps12
    go_wp2_with fail
    refine hfind.mono ?_
    rintro e w1 ⟨rfl, hb⟩
    have hl := h.below hb (Nat.le_refl _)
    obtain ⟨dw, ds, _, _, _, k3, _, _, _, hds⟩ := hl.cells
    have kv := hl.val p hp1
    have fv := hl.freeS (p * 2 + 1)
    have hp2 : (p : Int) < M.ss.length := by omega
    have hp3 : (0 : Int) ≤ (p : Int) := by omega
    have hset := hl.setV p (.string sv) hp1
    clear c0 c1 c2 c3 c4 c5
    go_wp2
    go_ret2
    exact ⟨rfl, bw, bs, hset, (But.of_below hb (Nat.le_refl _)).setCell (p := ⟨bs, p * 2 + 1, none⟩) (.inl (by simp)) _, .inl rfl, .inl rfl⟩
  | none =>
    rw [hfd] at hfind
    by_cases hfull : 2000 ≤ M.n
    · have hput : M.put key (.string sv) (.string ⟨#[]⟩) = (false, 7, M) := by unfold SM.put; rw [hfd]; simp only; rw [if_pos hfull]
      rw [hput]
      clear hput hfd
      go_enter Tryd.func12, Tryd.ntmps12
      go_wp2_with fail
      refine hfind.mono ?_
      rintro e w1 ⟨rfl, hb⟩
      have hl := h.below hb (Nat.le_refl _)
      obtain ⟨dw, ds, _, _, _, _, k4, _, _, _⟩ := hl.cells
      clear c0 c1 c2 c3 c4 c5
      go_wp2
      go_ret2
      exact ⟨rfl, bw, bs, hl, But.of_below hb (Nat.le_refl _), .inl rfl, .inl rfl⟩
    · by_cases hroom : 7 * M.ws.length ≤ M.n + M.t
      · have hput : M.put key (.string sv) (.string ⟨#[]⟩) = (false, 0, (M.rehash (.string ⟨#[]⟩)).place key (.string sv)) := by unfold SM.put; rw [hfd]; simp only; rw [if_neg hfull, if_pos hroom]
        rw [hput]
        have hg := hS.room hroom (by omega)
        obtain ⟨f1, f2, f3⟩ := rehash_fit hF hg (.string ⟨#[]⟩)
        clear hput hfd
        go_enter Tryd.func12, Tryd.ntmps12
        go_wp2_with fail
        refine hfind.mono ?_
        rintro e w1 ⟨rfl, hb⟩
        have hl := h.below hb (Nat.le_refl _)
        obtain ⟨dw, ds, _, _, k2, _, k4, k5, _, _⟩ := hl.cells
        have hz := hb.size
        clear c0 c1 c2 c3 c4 c5
        have hi1 : 7 * (M.ws.length : Int) ≤ M.n + M.t := by omega
        have hi2 : ¬ 2000 ≤ (M.n : Int) := by omega
        go_wp2
        go_quiet (fail)
        go_wp2_with fail
        refine (rrehash_any b bw bs M (w1.drewN nq) (by show 0 < w1.heap.size; have := hb.size; omega) (hl.drewN nq) hF hS.typed hg).mono ?_
        rintro e w2 ⟨⟨u, rfl⟩, bw', bs', hl2, g1, g2, hb2⟩
        go_wp2_with fail
        refine (rlay_any b bw' bs' (M.rehash (.string ⟨#[]⟩)) key sv w2 hl2 f1 hk (fun g i hg hi he => absurd he (f2 g i hg hi))).mono ?_
        rintro e w3 ⟨⟨u, rfl⟩, hl3, hb3⟩
        go_wp2
        go_ret2
        have g1' : w.heap.size ≤ bw' := Nat.le_trans hz g1
        have g2' : w.heap.size ≤ bs' := Nat.le_trans hz g2
        have hbb : But [b, bw, bs] w w2 := ((But.of_below hb (Nat.le_refl _)).drewN nq).wide hb2 (by simp)
        exact ⟨rfl, bw', bs', hl3, hbb.wide hb3 (by simp; omega), .inr g1', .inr g2'⟩
      · have hput : M.put key (.string sv) (.string ⟨#[]⟩) = (false, 0, M.place key (.string sv)) := by unfold SM.put; rw [hfd]; simp only; rw [if_neg hfull, if_neg hroom]
        rw [hput]
        clear hput hfd
        go_enter Tryd.func12, Tryd.ntmps12
        go_wp2_with fail
        refine hfind.mono ?_
        rintro e w1 ⟨rfl, hb⟩
        have hl := h.below hb (Nat.le_refl _)
        obtain ⟨dw, ds, _, _, k2, _, k4, k5, _, _⟩ := hl.cells
        clear c0 c1 c2 c3 c4 c5
        have hi1 : ¬ 7 * (M.ws.length : Int) ≤ M.n + M.t := by omega
        have hi2 : ¬ 2000 ≤ (M.n : Int) := by omega
        go_wp2
        go_quiet (fail)
        go_wp2_with fail
        refine (rlay_any b bw bs M key sv (w1.drewN nq) (hl.drewN nq) hF hk hS.tombs).mono ?_
        rintro e w3 ⟨⟨u, rfl⟩, hl3, hb3⟩
        go_wp2
        go_ret2
        exact ⟨rfl, bw, bs, hl3, ((But.of_below hb (Nat.le_refl _)).drewN nq).trans hb3, .inl rfl, .inl rfl⟩
end Go.Proofs.YtiobfdfmfgjpfaaDoor

/-
  Contracts: corbelref06.New, Next.
-/
namespace Go.Proofs.YtiobfdfmfgjpfaaDoor
open Go.RowKit Go.Shelf

set_option maxHeartbeats 1000000 in
theorem rwnew_any (b bw bs : Nat) (M : SM) (w : World) (h : Lies 87 84 w b bw bs M) (hI : M.Inv IsV_s) :
    Calls Tryd.prog 14 #[.pointer (some ⟨b, 0, none⟩)] w fun e w' => ∃ x, e = .returned (.pointer (some ⟨x, 0, none⟩)) ∧ Wk 49 w' x (.pointer (some ⟨b, 0, none⟩)) M.keys ∧ w.heap.size ≤ x ∧ x < w'.heap.size ∧ Below w.heap.size w w' := by
  have hk := rkeys_any b bw bs M w h hI.fit
  go_enter Tryd.func14, Tryd.ntmps14
  go_wp2_with fail
  refine hk.mono ?_
  rintro e w1 ⟨v, rfl, ho, hb⟩
  have hr : RowT w1 v M.keys := RowT.of_owns ho
  obtain ⟨p, c, rfl, _⟩ := id hr
  have hw := wk_new w1 (.pointer (some ⟨b, 0, none⟩)) (.slice p M.keys.length c) 49 M.keys hr
  clear hk ho
  go_wp2
  go_ret
  exact ⟨_, rfl, hw, hb.size, by simp, hb.alloc hb.size _⟩

set_option maxRecDepth 10000 in
set_option maxHeartbeats 2000000 in
theorem rwnext_any (x b bw bs : Nat) (M : SM) (xs : List ByteArray) (w : World) (h : Lies 87 84 w b bw bs M) (hI : M.Inv IsV_s) (hs : ∀ k ∈ xs, k.size < 140737488355328) (hW : Wk 49 w x (.pointer (some ⟨b, 0, none⟩)) xs) :
    Calls Tryd.prog 18 #[.pointer (some ⟨x, 0, none⟩)] w fun e w' => e = .returned (.tuple #[.string (M.nk xs), .string (M.nv xs), .bool (M.nb xs)]) ∧ Wk 49 w' x (.pointer (some ⟨b, 0, none⟩)) (M.skip xs).tail ∧ But [x] w w' := by
  obtain ⟨_, hW1, _⟩ := id hW
  go_enter Tryd.func18, Tryd.ntmps18
  go_wp2
  go_loopw [] (fun wr => ∃ ys, (∃ pre, xs = pre ++ ys) ∧ Hid (M.skip xs = M.skip ys) ∧ Wk 49 wr x (.pointer (some ⟨b, 0, none⟩)) ys ∧ But [x] w wr) (fun wr => aheadN x wr)
  case atStart => exact ⟨xs, ⟨[], rfl⟩, rfl, hW, But.refl _ _⟩
  case round =>
    obtain ⟨ys, ⟨pre, hpre⟩, hsk, hWr, hbr⟩ := hrel
    cases ys with
    | nil =>
      clear hpre hs
      obtain ⟨v, c0, c1, f1, ⟨p, c, rfl, h1, h2, h3⟩, _⟩ := hWr.cells
      clear h3
      go_wp2
      go_ret3
      refine ⟨?_, by rw [hsk.out]; exact hWr, hbr⟩
      unfold SM.nk SM.nv SM.nb
      rw [hsk.out]
      rfl
    | cons k r =>
      have hks : k.size < 140737488355328 := hs k (by rw [hpre]; simp)
      obtain ⟨v, c0, c1, f1, hrow, hob⟩ := hWr.cells
      obtain ⟨p, c, rfl, _⟩ := id hrow
      obtain ⟨g, o, q, rfl, hn, hc, ck, ⟨cur, f, hg⟩, hif, htail⟩ := hrow.tail
      have hset := Wk.set (m := .pointer (some ⟨b, 0, none⟩)) (by decide) hob htail
      have hbs : But [x] w (wr.setCell ⟨x, 1, none⟩ (.slice (some q) r.length (c - 1))) := hbr.setCell (.inl (by simp)) _
      have hL2 := h.other (by decide) hW1 hbs
      have hget := rget_map b bw bs M k _ hL2 hI.fit hI.typed hks
      rw [get_val hI, get_is] at hget
      have hm1 := aheadN_is hWr
      have hm2 := aheadN_is hset
      clear hW1 hob hrow
      rw [List.length_cons] at c1
      go_wp2_with fail
      refine hget.mono ?_
      rintro e w2 ⟨rfl, hb2⟩
      have hW2 := hset.below hb2
      have hB2 : But [x] w w2 := hbs.trans (But.of_below hb2 (Nat.le_refl _))
      have hm3 := aheadN_is hW2
      clear hget hb2 hset hbs hL2 htail hif ck hg c1 c0 f1 hWr
      cases hfd : (M.find k).isSome with
      | true =>
        have hsk2 : Hid (M.skip xs = k :: r) := by show _ = _; rw [hsk.out, skip_here hfd]
        go_wp2
        go_ret3
        refine ⟨?_, by rw [hsk2.out]; exact hW2, hB2⟩
        unfold SM.nk SM.nv SM.nb
        rw [hsk2.out]
        rfl
      | false =>
        have hsk2 : Hid (M.skip xs = M.skip r) := by show _ = _; rw [hsk.out, skip_gone hfd]
        have hvz : valK M k = ⟨#[]⟩ := by unfold valK; rw [get_not hfd]
        rw [hvz]
        go_wp2
        go_roundw
        case rel => exact ⟨r, ⟨pre ++ [k], by rw [hpre]; simp⟩, hsk2, hW2, hB2⟩
        case measure => rw [hm1, hm3]; simp
end Go.Proofs.YtiobfdfmfgjpfaaDoor

/-
  A map and the document's map side by side, a walk over each: what Put, Delete, Next and Left leave of them.
-/
namespace Go.Proofs.YtiobfdfmfgjpfaaDoor
open Go.RowKit Go.Shelf

def Six6 (B b1 bw1 bs1 b2 bw2 bs2 : Nat) : Prop := B ≤ b1 ∧ B ≤ bw1 ∧ B ≤ bs1 ∧ B ≤ b2 ∧ B ≤ bw2 ∧ B ≤ bs2 ∧ b1 ≠ b2 ∧ b1 ≠ bw2 ∧ b1 ≠ bs2 ∧ bw1 ≠ b2 ∧ bw1 ≠ bw2 ∧ bw1 ≠ bs2 ∧ bs1 ≠ b2 ∧ bs1 ≠ bw2 ∧ bs1 ≠ bs2
/-- The kinds of blocks that maps and walks write. -/
def kindsW : List TypeId := [81, 22, 77, 87, 84, 89, 49]
/-- The map at b is Mx, the document's at c is My; both are the call's own and apart from each other. -/
def Duo (w wr : World) (b c : Nat) (Mx My : SM) : Prop :=
  (∃ bw bs cw cs, Lies 81 77 wr b bw bs Mx ∧ Lies 87 84 wr c cw cs My ∧ Six6 w.heap.size b bw bs c cw cs) ∧ Mx.Inv IsV_s ∧ My.Inv IsV_s ∧ Below w.heap.size w wr
section
variable {w wr w' : World} {b c x y : Nat} {Mx My : SM} {xs ys : List ByteArray}
theorem Duo.bel (h : Duo w wr b c Mx My) : Below w.heap.size w wr := h.2.2.2
theorem Duo.below (h : Duo w wr b c Mx My) (hb : Below wr.heap.size wr w') : Duo w w' b c Mx My := by
  obtain ⟨⟨bw, bs, cw, cs, h1, h2, h3⟩, h4, h5, h6⟩ := h
  exact ⟨⟨bw, bs, cw, cs, h1.below hb (Nat.le_refl _), h2.below hb (Nat.le_refl _), h3⟩, h4, h5, h6.trans (hb.mono h6.size)⟩
set_option maxHeartbeats 1000000 in
theorem Duo.putL (h : Duo w wr b c Mx My) (hT : Tab w) (key v : ByteArray) (hk : key.size < 140737488355328) :
    Calls Tryd.prog 11 #[.pointer (some ⟨b, 0, none⟩), .string key, .string v] wr fun e w' => e = .returned (.tuple #[.bool (Mx.put key (.string v) (.string ⟨#[]⟩)).1, .int .i64 ((Mx.put key (.string v) (.string ⟨#[]⟩)).2.1 : Nat)]) ∧ Duo w w' b c (Mx.put key (.string v) (.string ⟨#[]⟩)).2.2 My ∧ Kinds [81, 22, 77] wr w' := by
  obtain ⟨⟨bw, bs, cw, cs, h1, h2, h3⟩, h4, h5, h6⟩ := h
  obtain ⟨t3, _, _, _⟩ := inv_put h4 (key := key) (v := .string v) (z := .string ⟨#[]⟩) (isV_string _) (isV_string _) hk
  refine (put_any_s b bw bs Mx key v wr (hT.below h6 hT.1) h1 (sane_of_inv h4) hk).mono ?_
  rintro e w' ⟨rfl, bw', bs', g1, g2, g3, g4⟩
  have hl2 := h2.lt
  have := h6.size
  unfold Six6 at h3
  refine ⟨rfl, ⟨⟨bw', bs', cw, cs, g1, h2.but g2 (by simp; omega) (by simp; omega) (by simp; omega), ?_⟩, t3, h5, h6.trans (g2.below (by simp; omega) h6.size)⟩, Kinds.of h1 g2⟩
  unfold Six6
  omega
set_option maxHeartbeats 1000000 in
theorem Duo.putR (h : Duo w wr b c Mx My) (key v : ByteArray) (hw0 : 0 < w.heap.size) (hk : key.size < 140737488355328) :
    Calls Tryd.prog 12 #[.pointer (some ⟨c, 0, none⟩), .string key, .string v] wr fun e w' => e = .returned (.tuple #[.bool (My.put key (.string v) (.string ⟨#[]⟩)).1, .int .i64 ((My.put key (.string v) (.string ⟨#[]⟩)).2.1 : Nat)]) ∧ Duo w w' b c Mx (My.put key (.string v) (.string ⟨#[]⟩)).2.2 ∧ Kinds [87, 22, 84] wr w' := by
  obtain ⟨⟨bw, bs, cw, cs, h1, h2, h3⟩, h4, h5, h6⟩ := h
  obtain ⟨t3, _, _, _⟩ := inv_put h5 (key := key) (v := .string v) (z := .string ⟨#[]⟩) (isV_string _) (isV_string _) hk
  refine (rput_any c cw cs My key v wr (by have := h6.size; omega) h2 (sane_of_inv h5) hk).mono ?_
  rintro e w' ⟨rfl, bw', bs', g1, g2, g3, g4⟩
  have hl1 := h1.lt
  have := h6.size
  unfold Six6 at h3
  refine ⟨rfl, ⟨⟨bw, bs, bw', bs', h1.but g2 (by simp; omega) (by simp; omega) (by simp; omega), g1, ?_⟩, h4, t3, h6.trans (g2.below (by simp; omega) h6.size)⟩, Kinds.of h2 g2⟩
  unfold Six6
  omega
theorem Duo.delL (h : Duo w wr b c Mx My) (hT : Tab w) (key : ByteArray) (hk : key.size < 140737488355328) :
    Calls Tryd.prog 15 #[.pointer (some ⟨b, 0, none⟩), .string key] wr fun e w' => e = .returned (.bool (Mx.del key (.string ⟨#[]⟩)).1) ∧ Duo w w' b c (Mx.del key (.string ⟨#[]⟩)).2 My ∧ Kinds [81, 22, 77] wr w' := by
  obtain ⟨⟨bw, bs, cw, cs, h1, h2, h3⟩, h4, h5, h6⟩ := h
  obtain ⟨t3, _⟩ := inv_del h4 (key := key) (z := .string ⟨#[]⟩) (isV_string _)
  refine (delete_any_s b bw bs Mx key wr (hT.below h6 hT.1) h1 (sane_of_inv h4) hk).mono ?_
  rintro e w' ⟨rfl, g1, g2⟩
  unfold Six6 at h3
  exact ⟨rfl, ⟨⟨bw, bs, cw, cs, g1, h2.but g2 (by simp; omega) (by simp; omega) (by simp; omega), h3⟩, t3, h5, h6.trans (g2.below (by simp; omega) h6.size)⟩, Kinds.of h1 g2⟩
theorem Duo.delR (h : Duo w wr b c Mx My) (key : ByteArray) (hk : key.size < 140737488355328) :
    Calls Tryd.prog 16 #[.pointer (some ⟨c, 0, none⟩), .string key] wr fun e w' => e = .returned (.bool (My.del key (.string ⟨#[]⟩)).1) ∧ Duo w w' b c Mx (My.del key (.string ⟨#[]⟩)).2 ∧ Kinds [87, 22, 84] wr w' := by
  obtain ⟨⟨bw, bs, cw, cs, h1, h2, h3⟩, h4, h5, h6⟩ := h
  obtain ⟨t3, _⟩ := inv_del h5 (key := key) (z := .string ⟨#[]⟩) (isV_string _)
  refine (rdelete_any c cw cs My key wr h2 (sane_of_inv h5) hk).mono ?_
  rintro e w' ⟨rfl, g1, g2⟩
  unfold Six6 at h3
  exact ⟨rfl, ⟨⟨bw, bs, cw, cs, h1.but g2 (by simp; omega) (by simp; omega) (by simp; omega), g1, h3⟩, h4, t3, h6.trans (g2.below (by simp; omega) h6.size)⟩, Kinds.of h2 g2⟩
/-- Another block of the call's own, of no map's kind, is turned. -/
theorem Duo.other (h : Duo w wr b c Mx My) {t : TypeId} {k : Nat} {cc : Array Value} {f : Nat × Nat} (ht : t ∉ [81, 22, 77]) (ht' : t ∉ [87, 22, 84]) (hk : wr.heap[k]? = some (Obj.cells cc t f)) (hkw : w.heap.size ≤ k) (hb : But [k] wr w') : Duo w w' b c Mx My := by
  obtain ⟨⟨bw, bs, cw, cs, h1, h2, h3⟩, h4, h5, h6⟩ := h
  exact ⟨⟨bw, bs, cw, cs, h1.other ht hk hb, h2.other ht' hk hb, h3⟩, h4, h5, h6.trans (hb.below (by simpa using hkw) h6.size)⟩
/-- Two maps and a walk over each. -/
def Trek (w wr : World) (b c x y : Nat) (Mx My : SM) (xs ys : List ByteArray) : Prop :=
  Duo w wr b c Mx My ∧ Wk 89 wr x (.pointer (some ⟨b, 0, none⟩)) xs ∧ Wk 49 wr y (.pointer (some ⟨c, 0, none⟩)) ys ∧ w.heap.size ≤ x ∧ w.heap.size ≤ y ∧ (∀ k ∈ xs, k.size < 140737488355328) ∧ ∀ k ∈ ys, k.size < 140737488355328
theorem Trek.bel (h : Trek w wr b c x y Mx My xs ys) : Below w.heap.size w wr := h.1.bel
theorem Trek.below (h : Trek w wr b c x y Mx My xs ys) (hb : Below wr.heap.size wr w') : Trek w w' b c x y Mx My xs ys := ⟨h.1.below hb, h.2.1.below hb, h.2.2.1.below hb, h.2.2.2⟩
theorem Trek.drew (h : Trek w wr b c x y Mx My xs ys) : Trek w wr.drew b c x y Mx My xs ys := h.below ⟨rfl, rfl, rfl, Nat.le_refl _, fun _ _ => rfl⟩
theorem Trek.putL (h : Trek w wr b c x y Mx My xs ys) (hT : Tab w) (key v : ByteArray) (hk : key.size < 140737488355328) :
    Calls Tryd.prog 11 #[.pointer (some ⟨b, 0, none⟩), .string key, .string v] wr fun e w' => e = .returned (.tuple #[.bool (Mx.put key (.string v) (.string ⟨#[]⟩)).1, .int .i64 ((Mx.put key (.string v) (.string ⟨#[]⟩)).2.1 : Nat)]) ∧ Trek w w' b c x y (Mx.put key (.string v) (.string ⟨#[]⟩)).2.2 My xs ys ∧ Kinds kindsW wr w' := by
  refine (h.1.putL hT key v hk).mono ?_
  rintro e w' ⟨rfl, h1, h2⟩
  exact ⟨rfl, ⟨h1, h.2.1.kinds h2 (by decide) (by decide), h.2.2.1.kinds h2 (by decide) (by decide), h.2.2.2⟩, h2.mono (by decide)⟩
theorem Trek.putR (h : Trek w wr b c x y Mx My xs ys) (key v : ByteArray) (hw0 : 0 < w.heap.size) (hk : key.size < 140737488355328) :
    Calls Tryd.prog 12 #[.pointer (some ⟨c, 0, none⟩), .string key, .string v] wr fun e w' => e = .returned (.tuple #[.bool (My.put key (.string v) (.string ⟨#[]⟩)).1, .int .i64 ((My.put key (.string v) (.string ⟨#[]⟩)).2.1 : Nat)]) ∧ Trek w w' b c x y Mx (My.put key (.string v) (.string ⟨#[]⟩)).2.2 xs ys ∧ Kinds kindsW wr w' := by
  refine (h.1.putR key v hw0 hk).mono ?_
  rintro e w' ⟨rfl, h1, h2⟩
  exact ⟨rfl, ⟨h1, h.2.1.kinds h2 (by decide) (by decide), h.2.2.1.kinds h2 (by decide) (by decide), h.2.2.2⟩, h2.mono (by decide)⟩
theorem Trek.delL (h : Trek w wr b c x y Mx My xs ys) (hT : Tab w) (key : ByteArray) (hk : key.size < 140737488355328) :
    Calls Tryd.prog 15 #[.pointer (some ⟨b, 0, none⟩), .string key] wr fun e w' => e = .returned (.bool (Mx.del key (.string ⟨#[]⟩)).1) ∧ Trek w w' b c x y (Mx.del key (.string ⟨#[]⟩)).2 My xs ys ∧ Kinds kindsW wr w' := by
  refine (h.1.delL hT key hk).mono ?_
  rintro e w' ⟨rfl, h1, h2⟩
  exact ⟨rfl, ⟨h1, h.2.1.kinds h2 (by decide) (by decide), h.2.2.1.kinds h2 (by decide) (by decide), h.2.2.2⟩, h2.mono (by decide)⟩
theorem Trek.delR (h : Trek w wr b c x y Mx My xs ys) (key : ByteArray) (hk : key.size < 140737488355328) :
    Calls Tryd.prog 16 #[.pointer (some ⟨c, 0, none⟩), .string key] wr fun e w' => e = .returned (.bool (My.del key (.string ⟨#[]⟩)).1) ∧ Trek w w' b c x y Mx (My.del key (.string ⟨#[]⟩)).2 xs ys ∧ Kinds kindsW wr w' := by
  refine (h.1.delR key hk).mono ?_
  rintro e w' ⟨rfl, h1, h2⟩
  exact ⟨rfl, ⟨h1, h.2.1.kinds h2 (by decide) (by decide), h.2.2.1.kinds h2 (by decide) (by decide), h.2.2.2⟩, h2.mono (by decide)⟩
theorem skip_mem {M : SM} {zs : List ByteArray} {k : ByteArray} (h : k ∈ (M.skip zs).tail) : k ∈ zs := by
  obtain ⟨pre, e, _⟩ := skip_split M zs
  rw [e]
  exact List.mem_append_right _ (List.mem_of_mem_tail h)
theorem Trek.nextL (h : Trek w wr b c x y Mx My xs ys) (hT : Tab w) :
    Calls Tryd.prog 17 #[.pointer (some ⟨x, 0, none⟩)] wr fun e w' => e = .returned (.tuple #[.string (Mx.nk xs), .string (Mx.nv xs), .bool (Mx.nb xs)]) ∧ Trek w w' b c x y Mx My (Mx.skip xs).tail ys ∧ Kinds kindsW wr w' := by
  obtain ⟨⟨bw, bs, cw, cs, h1, h2, h3⟩, h4, h5, h6⟩ := id h.1
  obtain ⟨v, q1, _⟩ := id h.2.1
  have := hT.1
  have hx := h.2.2.2.1
  refine (wnext_any_s x b bw bs Mx xs wr (hT.below h6 hT.1) h1 h4 h.2.2.2.2.2.1 (by omega) h.2.1).mono ?_
  rintro e w' ⟨rfl, g1, g2⟩
  have hk := Kinds.one q1 g2
  exact ⟨rfl, ⟨h.1.other (by decide) (by decide) q1 hx g2, g1, h.2.2.1.kinds hk (by decide) (by decide), hx, h.2.2.2.2.1, fun k hk' => h.2.2.2.2.2.1 k (skip_mem hk'), h.2.2.2.2.2.2⟩, hk.mono (by decide)⟩
theorem Trek.nextR (h : Trek w wr b c x y Mx My xs ys) :
    Calls Tryd.prog 18 #[.pointer (some ⟨y, 0, none⟩)] wr fun e w' => e = .returned (.tuple #[.string (My.nk ys), .string (My.nv ys), .bool (My.nb ys)]) ∧ Trek w w' b c x y Mx My xs (My.skip ys).tail ∧ Kinds kindsW wr w' := by
  obtain ⟨⟨bw, bs, cw, cs, h1, h2, h3⟩, h4, h5, h6⟩ := id h.1
  obtain ⟨v, q1, _⟩ := id h.2.2.1
  have hy := h.2.2.2.2.1
  refine (rwnext_any y c cw cs My ys wr h2 h5 h.2.2.2.2.2.2 h.2.2.1).mono ?_
  rintro e w' ⟨rfl, g1, g2⟩
  have hk := Kinds.one q1 g2
  exact ⟨rfl, ⟨h.1.other (by decide) (by decide) q1 hy g2, h.2.1.kinds hk (by decide) (by decide), g1, h.2.2.2.1, hy, h.2.2.2.2.2.1, fun k hk' => h.2.2.2.2.2.2 k (skip_mem hk')⟩, hk.mono (by decide)⟩
/-- The two walks begin. -/
theorem Duo.walkL (h : Duo w wr b c Mx My) (hT : Tab w) :
    Calls Tryd.prog 13 #[.pointer (some ⟨b, 0, none⟩)] wr fun e w' => ∃ x, e = .returned (.pointer (some ⟨x, 0, none⟩)) ∧ Duo w w' b c Mx My ∧ Wk 89 w' x (.pointer (some ⟨b, 0, none⟩)) Mx.keys ∧ w.heap.size ≤ x := by
  obtain ⟨⟨bw, bs, cw, cs, h1, h2, h3⟩, h4, h5, h6⟩ := id h
  refine (wnew_any_s b bw bs Mx wr (hT.below h6 hT.1) h1 h4).mono ?_
  rintro e w' ⟨x, rfl, g1, g2, _, g3⟩
  have := h6.size
  exact ⟨x, rfl, h.below g3, g1, by omega⟩
theorem Duo.walkR (h : Duo w wr b c Mx My) (hx : Wk 89 wr x (.pointer (some ⟨b, 0, none⟩)) Mx.keys) (hxw : w.heap.size ≤ x) :
    Calls Tryd.prog 14 #[.pointer (some ⟨c, 0, none⟩)] wr fun e w' => ∃ y, e = .returned (.pointer (some ⟨y, 0, none⟩)) ∧ Trek w w' b c x y Mx My Mx.keys My.keys := by
  obtain ⟨⟨bw, bs, cw, cs, h1, h2, h3⟩, h4, h5, h6⟩ := id h
  refine (rwnew_any c cw cs My wr h2 h5).mono ?_
  rintro e w' ⟨y, rfl, g1, g2, _, g3⟩
  have := h6.size
  exact ⟨y, rfl, h.below g3, hx.below g3, g1, hxw, by omega, fun k hk => keys_size h4 hk, fun k hk => keys_size h5 hk⟩
end
end Go.Proofs.YtiobfdfmfgjpfaaDoor
