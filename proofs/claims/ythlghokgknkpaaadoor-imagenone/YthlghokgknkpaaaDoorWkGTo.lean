import Derived.Test.YthlghokgknkpaaaDoorImCTo
import Derived.Laws.Cover1
import Derived.Deep.LoopGhost
import Derived.OwnWalk
/-
  Contracts: strings.Compare; the two functions of image that compare; slices.BinarySearchFunc of pairs; image.place.
-/
namespace Go.Proofs.YthlghokgknkpaaaDoor
open Go.RowKit Go.Shelf

set_option maxHeartbeats 1000000 in
set_option maxRecDepth 100000 in
theorem compareString_any (a b : ByteArray) (w : World) : Calls Tryd.prog 52 #[.string a, .string b] w fun e w' => e = .returned (.int .i64 (cmpT a b)) ∧ w' = w := by
  unfold cmpT
  go_enter Tryd.func52, Tryd.ntmps52
  go_wp2
  rw [run_callFunc_extern Tryd.func78 (by kernel_rfl) (by kernel_rfl) (by kernel_rfl) (e := Extern.BytealgCompare.compare) (by kernel_rfl), Lib.run_compareString]
  simp only [Result.andThen]
  rw [Oper.upon_value]
  go_wp2
  go_ret
  exact ⟨rfl, rfl⟩

set_option maxHeartbeats 1000000 in
theorem compare_any (a b : ByteArray) (w : World) : Calls Tryd.prog 28 #[.string a, .string b] w fun e w' => e = .returned (.int .i64 (cmpT a b)) ∧ w' = w := by
  go_enter Tryd.func28, Tryd.ntmps28
  go_wp2_with (go_at_call 52; refine same_mono (compareString_any _ _ _) ?_)
  go_ret
  exact ⟨rfl, rfl⟩

set_option maxHeartbeats 1000000 in
theorem place1_any (x : ByteArray × ByteArray) (key : ByteArray) (w : World) : Calls Tryd.prog 54 #[.agg #[.string x.1, .string x.2], .string key] w fun e w' => e = .returned (.int .i64 (cmpT x.1 key)) ∧ Below w.heap.size w w' := by
  go_enter Tryd.func54, Tryd.ntmps54
  go_wp2_with (go_at_call 28; refine same_mono (compare_any _ _ _) ?_)
  go_ret
  exact ⟨rfl, (Below.refl _ _).alloc (Nat.le_refl _) _⟩

set_option maxHeartbeats 4000000 in
set_option maxRecDepth 100000 in
theorem search_any (p : Option Addr) (n c : Nat) (l : List (ByteArray × ByteArray)) (key : ByteArray) (w : World) (hX : HasP w (.slice p n c) l) (hr : Rise l) (hn : n < 4611686018427387904) :
    Calls Tryd.prog 53 #[.slice p n c, .string key, .func (.func 54) #[] #[]] w fun e w' => ∃ b : Bool, e = .returned (.tuple #[.int .i64 (plc l key : Nat), .bool b]) ∧ Below w.heap.size w w' := by
  have hlen : Hid (n = l.length) := hX.len.1
  have hX' : Hid (HasP w (.slice p n c) l) := hX
  have hr' : Hid (Rise l) := hr
  clear hX hr
  go_enter Tryd.func53, Tryd.ntmps53
  go_wp2
  go_loopg [9, 10] n (fun kx s9 s10 wr => ∃ lo hi : Nat, s9 = .int .i64 (lo : Nat) ∧ s10 = .int .i64 (hi : Nat) ∧ lo ≤ hi ∧ hi ≤ n ∧ hi - lo ≤ kx ∧ Below w.heap.size w wr ∧
    Hid ((∀ q ∈ l.take lo, ltT q.1 key = true) ∧ ∀ q ∈ l.drop hi, ltT q.1 key = false))
  case atStart => exact ⟨0, n, rfl, rfl, Nat.zero_le _, Nat.le_refl _, by omega, Below.refl _ _, ⟨(fun q h => by simp at h), fun q h => by rw [hlen.out, List.drop_length] at h; cases h⟩⟩
  case round =>
    obtain ⟨lo, hi, rfl, rfl, hlh, hin, hg, hb, I⟩ := hrel
    by_cases hlt : lo < hi
    · obtain ⟨bb, oo, rfl, hbb, hcc, -, c1, c2⟩ := (hX'.out.below hb (Nat.le_refl _)).at (j := (lo + hi) / 2) (by omega)
      have hml : (lo + hi) / 2 < l.length := by rw [← hlen.out]; omega
      have hq : Hid (l.getD ((lo + hi) / 2) default = l[(lo + hi) / 2]) := pgetD hml
      generalize l.getD ((lo + hi) / 2) default = x at *
      have hcmp := place1_any x key wr
      have hneg : Hid (decide (cmpT x.1 key < 0) = ltT x.1 key) := cmpT_neg x.1 key
      obtain ⟨xk, xv⟩ := x
      dsimp only at c1 c2 hcmp
      by_cases hyx : cmpT xk key < 0
      · have hlt1 : Hid (ltT xk key = true) := by
          have := hneg.out
          rw [decide_eq_true hyx] at this
          exact this.symm
        go_wp2_with (go_at_call 54; refine hcmp.mono ?_; rintro e w1 ⟨rfl, hb1⟩)
        go_roundg (hi - ((lo + hi) / 2 + 1))
        case measure => omega
        case rel =>
          refine ⟨(lo + hi) / 2 + 1, hi, by rw [show ((lo : Int) + (hi : Int)) / 2 + 1 = (((lo + hi) / 2 + 1 : Nat) : Int) by omega], rfl, by omega, hin, Nat.le_refl _, hb.trans (hb1.mono hb.size), ⟨fun q hq' => ?_, I.out.2⟩⟩
          rw [List.take_succ_eq_append_getElem hml] at hq'
          rcases List.mem_append.1 hq' with hq' | hq'
          · obtain ⟨t, ht, rfl⟩ := List.getElem_of_mem hq'
            rw [List.length_take] at ht
            rw [List.getElem_take]
            have h1 := List.pairwise_iff_getElem.1 hr'.out t ((lo + hi) / 2) (by omega) hml (by omega)
            rw [← hq.out] at h1
            exact ltT_trans h1 hlt1.out
          · rw [List.mem_singleton] at hq'
            rw [hq', ← hq.out]
            exact hlt1.out
      · have hlt1 : Hid (ltT xk key = false) := by
          have := hneg.out
          rw [decide_eq_false hyx] at this
          exact this.symm
        go_wp2_with (go_at_call 54; refine hcmp.mono ?_; rintro e w1 ⟨rfl, hb1⟩)
        go_roundg ((lo + hi) / 2 - lo)
        case measure => omega
        case rel =>
          refine ⟨lo, (lo + hi) / 2, rfl, by rw [show ((lo : Int) + (hi : Int)) / 2 = (((lo + hi) / 2 : Nat) : Int) by omega], by omega, by omega, Nat.le_refl _, hb.trans (hb1.mono hb.size), ⟨I.out.1, fun q hq' => ?_⟩⟩
          rw [List.drop_eq_getElem_cons hml] at hq'
          rcases List.mem_cons.1 hq' with hq' | hq'
          · rw [hq', ← hq.out]
            exact hlt1.out
          · obtain ⟨t, ht, rfl⟩ := List.getElem_of_mem hq'
            rw [List.length_drop] at ht
            rw [List.getElem_drop]
            have h1 := List.pairwise_iff_getElem.1 hr'.out ((lo + hi) / 2) ((lo + hi) / 2 + 1 + t) hml (by omega) (by omega)
            rw [← hq.out] at h1
            cases hk : ltT (l[(lo + hi) / 2 + 1 + t]'(by omega)).1 key with
            | false => rfl
            | true => have := ltT_trans h1 hk; rw [hlt1.out] at this; cases this
    · obtain rfl : hi = lo := by omega
      have hpl : Hid (hi = plc l key) := plc_is (by rw [← hlen.out]; exact hin) I.out.1 I.out.2
      by_cases hn : hi < n
      · obtain ⟨bb, oo, rfl, hbb, hcc, -, c1, c2⟩ := (hX'.out.below hb (Nat.le_refl _)).at (j := hi) hn
        generalize l.getD hi default = x at *
        have hcmp := place1_any x key wr
        obtain ⟨xk, xv⟩ := x
        dsimp only at c1 c2 hcmp
        generalize cmpT xk key = r at *
        go_wp2_with (go_at_call 54; refine hcmp.mono ?_; rintro e w1 ⟨rfl, hb1⟩)
        all_goals
          go_ret2
          rw [← hpl.out]
          exact ⟨_, rfl, hb.trans (hb1.mono hb.size)⟩
      · go_wp2
        go_ret2
        rw [← hpl.out]
        exact ⟨_, rfl, hb⟩

set_option maxHeartbeats 1000000 in
theorem place_any (p : Option Addr) (n c : Nat) (l : List (ByteArray × ByteArray)) (key : ByteArray) (w : World) (hX : HasP w (.slice p n c) l) (hr : Rise l) (hn : n < 4611686018427387904) :
    Calls Tryd.prog 29 #[.slice p n c, .string key] w fun e w' => e = .returned (.int .i64 (plc l key : Nat)) ∧ Below w.heap.size w w' := by
  have hs := search_any p n c l key w hX hr hn
  clear hX hr hn
  go_enter Tryd.func29, Tryd.ntmps29
  go_wp2_with (go_at_call 53; refine hs.mono ?_; rintro e w1 ⟨b, rfl, hb1⟩)
  go_ret
  exact ⟨rfl, hb1⟩
end Go.Proofs.YthlghokgknkpaaaDoor

/-
  Contracts: Walk[string].Left, walk.New[string], Walk[string].Next.
-/
namespace Go.Proofs.YthlghokgknkpaaaDoor
open Go.RowKit Go.Shelf

theorem left_any_s (x : Nat) (m : Value) (xs : List ByteArray) (w : World) (h : Wk 106 w x m xs) : Calls Tryd.prog 67 #[.pointer (some ⟨x, 0, none⟩)] w fun e w' => e = .returned (.int .i64 (xs.length : Nat)) ∧ w' = w := by
  obtain ⟨v, c0, c1, f1, ⟨p, c, rfl, h1, h2, h3⟩, _⟩ := h.cells
  clear h3
  go_enter Tryd.func67, Tryd.ntmps67
  go_wp2
  go_ret
  exact ⟨rfl, rfl⟩

theorem wk_new (w : World) (m v : Value) (t : TypeId) (xs : List ByteArray) (h : RowT w v xs) : Wk t (w.alloc (.cells #[m, v] t)) w.heap.size m xs := ⟨v, heap_alloc_new _ _, h.below ((Below.refl _ _).alloc (Nat.le_refl _) _)⟩

set_option maxHeartbeats 1000000 in
theorem wnew_any_s (b bw bs : Nat) (M : SM) (w : World) (hT : Tab w) (h : Lies 60 56 w b bw bs M) (hI : M.Inv IsV_s) :
    Calls Tryd.prog 48 #[.pointer (some ⟨b, 0, none⟩)] w fun e w' => ∃ x, e = .returned (.pointer (some ⟨x, 0, none⟩)) ∧ Wk 106 w' x (.pointer (some ⟨b, 0, none⟩)) M.keys ∧ w.heap.size ≤ x ∧ x < w'.heap.size ∧ Below w.heap.size w w' := by
  have hk := keys_any_s b bw bs M w hT h hI.fit (full_n hI)
  have hkl := keys_len hI
  go_enter Tryd.func48, Tryd.ntmps48
  go_wp2_with fail
  refine hk.mono ?_
  rintro e w1 ⟨g, rfl, hg, ho, hb⟩
  have hr : RowT w1 (.slice (some ⟨g, 0, none⟩) M.n M.n) M.keys := RowT.of_owns (B := 0) (by unfold OwnsT; rw [hkl]; exact ho)
  have hw := wk_new w1 (.pointer (some ⟨b, 0, none⟩)) (.slice (some ⟨g, 0, none⟩) M.n M.n) 106 M.keys hr
  clear hk ho
  go_wp2
  go_ret
  exact ⟨_, rfl, hw, hb.size, by simp, hb.alloc hb.size _⟩

/-- How many are ahead of the walk in block x. -/
def aheadN (x : Nat) (w : World) : Nat := match w.cell? ⟨x, 1, none⟩ with | some (.slice _ n _) => n | _ => 0
theorem aheadN_is {tW : TypeId} {w : World} {x : Nat} {m : Value} {xs : List ByteArray} (h : Wk tW w x m xs) : aheadN x w = xs.length := by
  obtain ⟨v, _, c1, _, ⟨p, c, rfl, _⟩, _⟩ := h.cells
  unfold aheadN
  rw [c1]

set_option maxRecDepth 10000 in
set_option maxHeartbeats 2000000 in
theorem wnext_any_s (x b bw bs : Nat) (M : SM) (xs : List ByteArray) (w : World) (hT : Tab w) (h : Lies 60 56 w b bw bs M) (hI : M.Inv IsV_s) (hs : ∀ k ∈ xs, k.size < 140737488355328) (hx0 : 0 < x) (hW : Wk 106 w x (.pointer (some ⟨b, 0, none⟩)) xs) :
    Calls Tryd.prog 49 #[.pointer (some ⟨x, 0, none⟩)] w fun e w' => e = .returned (.tuple #[.string (M.nk xs), .string (M.nv xs), .bool (M.nb xs)]) ∧ Wk 106 w' x (.pointer (some ⟨b, 0, none⟩)) (M.skip xs).tail ∧ But [x] w w' := by
  obtain ⟨_, hW1, _⟩ := id hW
  go_enter Tryd.func49, Tryd.ntmps49
  go_wp2
  go_loopw [3] (fun v wr => v = .string ⟨#[]⟩ ∧ ∃ ys, (∃ pre, xs = pre ++ ys) ∧ Hid (M.skip xs = M.skip ys) ∧ Wk 106 wr x (.pointer (some ⟨b, 0, none⟩)) ys ∧ But [x] w wr) (fun _ wr => aheadN x wr)
  case atStart => exact ⟨rfl, xs, ⟨[], rfl⟩, rfl, hW, But.refl _ _⟩
  case round =>
    obtain ⟨rfl, ys, ⟨pre, hpre⟩, hsk, hWr, hbr⟩ := hrel
    have hleft := left_any_s x _ ys wr hWr
    cases ys with
    | nil =>
      clear hpre hs
      go_wp2_with fail
      refine same_mono hleft ?_
      go_wp2
      go_ret3
      refine ⟨?_, by rw [hsk.out]; exact hWr, hbr⟩
      unfold SM.nk SM.nv SM.nb
      rw [hsk.out]
      rfl
    | cons k r =>
      have hks : k.size < 140737488355328 := hs k (by rw [hpre]; simp)
      obtain ⟨v, c0, c1, f1, hrow, hob⟩ := hWr.cells
      obtain ⟨p, c, rfl, _⟩ := id hrow
      obtain ⟨g, o, q, rfl, hn, hc, ck, ⟨cur, f, hg⟩, hif, htail⟩ := hrow.tail
      have hset := Wk.set (m := .pointer (some ⟨b, 0, none⟩)) (by decide) hob htail
      have hbs : But [x] w (wr.setCell ⟨x, 1, none⟩ (.slice (some q) r.length (c - 1))) := hbr.setCell (.inl (by simp)) _
      have hL2 := h.other (by decide) hW1 hbs
      have hT2 := hbs.tab hT (by simp; omega)
      have hget := get_map_s b bw bs M k _ hT2 hL2 hI.fit hI.typed hks
      rw [get_val hI, get_is] at hget
      rw [List.length_cons] at hleft
      have hm1 := aheadN_is hWr
      have hm2 := aheadN_is hset
      clear hW1 hob hrow
      go_wp2_with fail
      refine same_mono hleft ?_
      go_wp2_with fail
      refine hget.mono ?_
      rintro e w2 ⟨rfl, hb2⟩
      have hW2 := hset.below hb2
      have hB2 : But [x] w w2 := hbs.trans (But.of_below hb2 (Nat.le_refl _))
      have hm3 := aheadN_is hW2
      clear hget hb2 hset hbs hL2 hT2 htail hif ck hg c1 c0 f1 hWr
      cases hfd : (M.find k).isSome with
      | true =>
        have hsk2 : Hid (M.skip xs = k :: r) := by show _ = _; rw [hsk.out, skip_here hfd]
        go_wp2
        go_ret3
        refine ⟨?_, by rw [hsk2.out]; exact hW2, hB2⟩
        unfold SM.nk SM.nv SM.nb
        rw [hsk2.out]
        rfl
      | false =>
        have hsk2 : Hid (M.skip xs = M.skip r) := by show _ = _; rw [hsk.out, skip_gone hfd]
        have hvz : valK M k = ⟨#[]⟩ := by unfold valK; rw [get_not hfd]
        rw [hvz]
        go_wp2
        go_roundw
        case rel => exact ⟨rfl, r, ⟨pre ++ [k], by rw [hpre]; simp⟩, hsk2, hW2, hB2⟩
        case measure => rw [hm1, hm3]; simp
end Go.Proofs.YthlghokgknkpaaaDoor

/-
  The walk's row of keys lies in blocks that are known (G): walk.New[string], Next, All[string] as an iterator.
-/
namespace Go.Proofs.YthlghokgknkpaaaDoor
open Go.RowKit Go.Shelf

/-- The row lies in a block of G. -/
def InG (G : Nat → Prop) (v : Value) : Prop := ∀ g o n c, v = .slice (some ⟨g, o, none⟩) n c → G g
theorem InG.tail {G : Nat → Prop} {g o n c n' c' : Nat} {q : Addr} (h : InG G (.slice (some ⟨g, o, none⟩) n c)) (hif : (if c = 1 then some (⟨g, o, none⟩ : Addr) else some ⟨g, o + 1, none⟩) = some q) : InG G (.slice (some q) n' c') := by
  intro g' o' n2 c2 e
  have hG := h g o n c rfl
  simp only [Value.slice.injEq, Option.some.injEq] at e
  obtain ⟨rfl, _, _⟩ := e
  split at hif
  · cases hif; exact hG
  · cases hif; exact hG
def WkG (G : Nat → Prop) (tW : TypeId) (w : World) (x : Nat) (m : Value) (xs : List ByteArray) : Prop := ∃ v, w.heap[x]? = some (Obj.cells #[m, v] tW (0, 0)) ∧ RowT w v xs ∧ InG G v
variable {G : Nat → Prop} {tW : TypeId} {w w' : World} {x : Nat} {m : Value} {xs : List ByteArray}
theorem WkG.wk (h : WkG G tW w x m xs) : Wk tW w x m xs := by
  obtain ⟨v, h1, h2, _⟩ := h
  exact ⟨v, h1, h2⟩
theorem WkG.below (h : WkG G tW w x m xs) (hb : Below w.heap.size w w') : WkG G tW w' x m xs := by
  obtain ⟨v, h1, h2, h3⟩ := h
  exact ⟨v, (hb.block x (Array.getElem?_eq_some_iff.1 h1).1).trans h1, h2.below hb, h3⟩
theorem WkG.cells (h : WkG G tW w x m xs) : ∃ v, w.cell? ⟨x, 0, none⟩ = some m ∧ w.cell? ⟨x, 1, none⟩ = some v ∧ w.frozen? ⟨x, 1, none⟩ = false ∧ RowT w v xs ∧ w.heap[x]? = some (Obj.cells #[m, v] tW (0, 0)) ∧ InG G v := by
  obtain ⟨v, h1, h2, h3⟩ := h
  refine ⟨v, ?_, ?_, ?_, h2, h1, h3⟩
  · unfold World.cell?; dsimp only; rw [h1]; rfl
  · unfold World.cell?; dsimp only; rw [h1]; rfl
  · simp [World.frozen?, h1]
theorem WkG.set {v v' : Value} (hW : tW ≠ 9) (h1 : w.heap[x]? = some (Obj.cells #[m, v] tW (0, 0))) (h2 : RowT w v' xs) (h3 : InG G v') : WkG G tW (w.setCell ⟨x, 1, none⟩ v') x m xs := by
  refine ⟨v', ?_, ?_, h3⟩
  · simp [World.setCell, Array.getElem?_modify, h1]
  · exact h2.kinds (T := [tW]) (Kinds.one h1 ((But.refl [x] w).setCell (.inl (by simp)) _)) (by simpa using Ne.symm hW)
/-- A window of blocks lies as it lay: the walk and its row with it. -/
theorem WkG.keeps {A B : Nat} (h : WkG (fun g => A ≤ g ∧ g < B) tW w x m xs) (hk : Keeps A B w w') (hx : A ≤ x ∧ x < B) : WkG (fun g => A ≤ g ∧ g < B) tW w' x m xs := by
  obtain ⟨v, h1, ⟨p, c, rfl, r1, r2, r3⟩, h3⟩ := h
  refine ⟨_, (hk.same x hx.1 hx.2).trans h1, ⟨p, c, rfl, r1, r2, fun h0 => ?_⟩, h3⟩
  obtain ⟨g, o, cur, f, rfl, hg, hc⟩ := r3 h0
  obtain ⟨g1, g2⟩ := h3 g o _ _ rfl
  have hs := hk.same g g1 g2
  exact ⟨g, o, cur, f, rfl, hs.trans hg, fun i hi => (World.cell?_of_block (a := ⟨g, o + i, none⟩) hs).trans (hc i hi)⟩

set_option maxHeartbeats 1000000 in
theorem wnewG_any_s (b bw bs : Nat) (M : SM) (w : World) (hT : Tab w) (h : Lies 60 56 w b bw bs M) (hI : M.Inv IsV_s) :
    Calls Tryd.prog 48 #[.pointer (some ⟨b, 0, none⟩)] w fun e w' => ∃ x, e = .returned (.pointer (some ⟨x, 0, none⟩)) ∧ WkG (fun g => w.heap.size ≤ g ∧ g < w'.heap.size) 106 w' x (.pointer (some ⟨b, 0, none⟩)) M.keys ∧ w.heap.size ≤ x ∧ x < w'.heap.size ∧ Below w.heap.size w w' := by
  have hk := keys_any_s b bw bs M w hT h hI.fit (full_n hI)
  have hkl := keys_len hI
  go_enter Tryd.func48, Tryd.ntmps48
  go_wp2_with fail
  refine hk.mono ?_
  rintro e w1 ⟨g, rfl, hg, ho, hb⟩
  have hg2 := (World.ownsRow.lt ho g rfl).2
  have hr : RowT w1 (.slice (some ⟨g, 0, none⟩) M.n M.n) M.keys := RowT.of_owns (B := 0) (by unfold OwnsT; rw [hkl]; exact ho)
  obtain ⟨v, hw1, hw2⟩ := wk_new w1 (.pointer (some ⟨b, 0, none⟩)) (.slice (some ⟨g, 0, none⟩) M.n M.n) 106 M.keys hr
  rw [heap_alloc_new] at hw1
  simp only [Option.some.injEq, Obj.cells.injEq] at hw1
  have hv : Value.slice (some ⟨g, 0, none⟩) M.n M.n = v := by
    have := hw1.1
    simpa using this
  subst hv
  clear hk ho hw1
  go_wp2
  go_ret
  refine ⟨_, rfl, ⟨_, heap_alloc_new _ _, hw2, ?_⟩, hb.size, by simp, hb.alloc hb.size _⟩
  intro g' o n c e
  cases e
  exact ⟨hg, by simp; omega⟩

set_option maxRecDepth 10000 in
set_option maxHeartbeats 2000000 in
theorem wnextG_any_s (G : Nat → Prop) (x b bw bs : Nat) (M : SM) (xs : List ByteArray) (w : World) (hT : Tab w) (h : Lies 60 56 w b bw bs M) (hI : M.Inv IsV_s) (hs : ∀ k ∈ xs, k.size < 140737488355328) (hx0 : 0 < x) (hW : WkG G 106 w x (.pointer (some ⟨b, 0, none⟩)) xs) :
    Calls Tryd.prog 49 #[.pointer (some ⟨x, 0, none⟩)] w fun e w' => e = .returned (.tuple #[.string (M.nk xs), .string (M.nv xs), .bool (M.nb xs)]) ∧ WkG G 106 w' x (.pointer (some ⟨b, 0, none⟩)) (M.skip xs).tail ∧ But [x] w w' := by
  obtain ⟨_, hW1, _⟩ := id hW.wk
  go_enter Tryd.func49, Tryd.ntmps49
  go_wp2
  go_loopw [3] (fun v wr => v = .string ⟨#[]⟩ ∧ ∃ ys, (∃ pre, xs = pre ++ ys) ∧ Hid (M.skip xs = M.skip ys) ∧ WkG G 106 wr x (.pointer (some ⟨b, 0, none⟩)) ys ∧ But [x] w wr) (fun _ wr => aheadN x wr)
  case atStart => exact ⟨rfl, xs, ⟨[], rfl⟩, rfl, hW, But.refl _ _⟩
  case round =>
    obtain ⟨rfl, ys, ⟨pre, hpre⟩, hsk, hWr, hbr⟩ := hrel
    have hleft := left_any_s x _ ys wr hWr.wk
    cases ys with
    | nil =>
      clear hpre hs
      go_wp2_with fail
      refine same_mono hleft ?_
      go_wp2
      go_ret3
      refine ⟨?_, by rw [hsk.out]; exact hWr, hbr⟩
      unfold SM.nk SM.nv SM.nb
      rw [hsk.out]
      rfl
    | cons k r =>
      have hks : k.size < 140737488355328 := hs k (by rw [hpre]; simp)
      obtain ⟨v, c0, c1, f1, hrow, hob, hGv⟩ := hWr.cells
      obtain ⟨p, c, rfl, _⟩ := id hrow
      obtain ⟨g, o, q, rfl, hn, hc, ck, ⟨cur, f, hg⟩, hif, htail⟩ := hrow.tail
      have hset := WkG.set (G := G) (m := .pointer (some ⟨b, 0, none⟩)) (by decide) hob htail (hGv.tail hif)
      have hbs : But [x] w (wr.setCell ⟨x, 1, none⟩ (.slice (some q) r.length (c - 1))) := hbr.setCell (.inl (by simp)) _
      have hL2 := h.other (by decide) hW1 hbs
      have hT2 := hbs.tab hT (by simp; omega)
      have hget := get_map_s b bw bs M k _ hT2 hL2 hI.fit hI.typed hks
      rw [get_val hI, get_is] at hget
      rw [List.length_cons] at hleft
      have hm1 := aheadN_is hWr.wk
      have hm2 := aheadN_is hset.wk
      clear hW1 hob hrow hGv
      go_wp2_with fail
      refine same_mono hleft ?_
      go_wp2_with fail
      refine hget.mono ?_
      rintro e w2 ⟨rfl, hb2⟩
      have hW2 := hset.below hb2
      have hB2 : But [x] w w2 := hbs.trans (But.of_below hb2 (Nat.le_refl _))
      have hm3 := aheadN_is hW2.wk
      clear hget hb2 hset hbs hL2 hT2 htail hif ck hg c1 c0 f1 hWr
      cases hfd : (M.find k).isSome with
      | true =>
        have hsk2 : Hid (M.skip xs = k :: r) := by show _ = _; rw [hsk.out, skip_here hfd]
        go_wp2
        go_ret3
        refine ⟨?_, by rw [hsk2.out]; exact hW2, hB2⟩
        unfold SM.nk SM.nv SM.nb
        rw [hsk2.out]
        rfl
      | false =>
        have hsk2 : Hid (M.skip xs = M.skip r) := by show _ = _; rw [hsk.out, skip_gone hfd]
        have hvz : valK M k = ⟨#[]⟩ := by unfold valK; rw [get_not hfd]
        rw [hvz]
        go_wp2
        go_roundw
        case rel => exact ⟨rfl, r, ⟨pre ++ [k], by rw [hpre]; simp⟩, hsk2, hW2, hB2⟩
        case measure => rw [hm1, hm3]; simp
end Go.Proofs.YthlghokgknkpaaaDoor
