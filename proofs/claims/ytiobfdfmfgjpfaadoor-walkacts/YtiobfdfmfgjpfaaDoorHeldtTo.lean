import Derived.Test.YtiobfdfmfgjpfaaDoorWkATo
import Derived.OwnWalk
import Derived.Test.YtiobfdfmfgjpfaaDoorSwEsTo
import Derived.Test.YtiobfdfmfgjpfaaDoorSwB3To
import Derived.Laws.OwnMore
import Derived.Test.YtiobfdfmfgjpfaaDoorSwGsTo
import Derived.Test.YtiobfdfmfgjpfaaDoorP1To
import Derived.Deep.RegionHeld3
/-
  Contracts: Walk[string].Left, walk.New[string], Walk[string].Next.
-/
namespace Go.Proofs.YtiobfdfmfgjpfaaDoor
open Go.RowKit Go.Shelf

theorem left_any_s (x : Nat) (m : Value) (xs : List ByteArray) (w : World) (h : Wk 89 w x m xs) : Calls Tryd.prog 19 #[.pointer (some ⟨x, 0, none⟩)] w fun e w' => e = .returned (.int .i64 (xs.length : Nat)) ∧ w' = w := by
  obtain ⟨v, c0, c1, f1, ⟨p, c, rfl, h1, h2, h3⟩, _⟩ := h.cells
  clear h3
  go_enter Tryd.func19, Tryd.ntmps19
  go_wp2
  go_ret
  exact ⟨rfl, rfl⟩

theorem wk_new (w : World) (m v : Value) (t : TypeId) (xs : List ByteArray) (h : RowT w v xs) : Wk t (w.alloc (.cells #[m, v] t)) w.heap.size m xs := ⟨v, heap_alloc_new _ _, h.below ((Below.refl _ _).alloc (Nat.le_refl _) _)⟩

set_option maxHeartbeats 1000000 in
theorem wnew_any_s (b bw bs : Nat) (M : SM) (w : World) (hT : Tab w) (h : Lies 81 77 w b bw bs M) (hI : M.Inv IsV_s) :
    Calls Tryd.prog 13 #[.pointer (some ⟨b, 0, none⟩)] w fun e w' => ∃ x, e = .returned (.pointer (some ⟨x, 0, none⟩)) ∧ Wk 89 w' x (.pointer (some ⟨b, 0, none⟩)) M.keys ∧ w.heap.size ≤ x ∧ x < w'.heap.size ∧ Below w.heap.size w w' := by
  have hk := keys_any_s b bw bs M w hT h hI.fit (full_n hI)
  have hkl := keys_len hI
  go_enter Tryd.func13, Tryd.ntmps13
  go_wp2_with fail
  refine hk.mono ?_
  rintro e w1 ⟨g, rfl, hg, ho, hb⟩
  have hr : RowT w1 (.slice (some ⟨g, 0, none⟩) M.n M.n) M.keys := RowT.of_owns (B := 0) (by unfold OwnsT; rw [hkl]; exact ho)
  have hw := wk_new w1 (.pointer (some ⟨b, 0, none⟩)) (.slice (some ⟨g, 0, none⟩) M.n M.n) 89 M.keys hr
  clear hk ho
  go_wp2
  go_ret
  exact ⟨_, rfl, hw, hb.size, by simp, hb.alloc hb.size _⟩

/-- How many are ahead of the walk in block x. -/
def aheadN (x : Nat) (w : World) : Nat := match w.cell? ⟨x, 1, none⟩ with | some (.slice _ n _) => n | _ => 0
theorem aheadN_is {tW : TypeId} {w : World} {x : Nat} {m : Value} {xs : List ByteArray} (h : Wk tW w x m xs) : aheadN x w = xs.length := by
  obtain ⟨v, _, c1, _, ⟨p, c, rfl, _⟩, _⟩ := h.cells
  unfold aheadN
  rw [c1]

set_option maxRecDepth 10000 in
set_option maxHeartbeats 2000000 in
theorem wnext_any_s (x b bw bs : Nat) (M : SM) (xs : List ByteArray) (w : World) (hT : Tab w) (h : Lies 81 77 w b bw bs M) (hI : M.Inv IsV_s) (hs : ∀ k ∈ xs, k.size < 140737488355328) (hx0 : 0 < x) (hW : Wk 89 w x (.pointer (some ⟨b, 0, none⟩)) xs) :
    Calls Tryd.prog 17 #[.pointer (some ⟨x, 0, none⟩)] w fun e w' => e = .returned (.tuple #[.string (M.nk xs), .string (M.nv xs), .bool (M.nb xs)]) ∧ Wk 89 w' x (.pointer (some ⟨b, 0, none⟩)) (M.skip xs).tail ∧ But [x] w w' := by
  obtain ⟨_, hW1, _⟩ := id hW
  go_enter Tryd.func17, Tryd.ntmps17
  go_wp2
  go_loopw [3] (fun v wr => v = .string ⟨#[]⟩ ∧ ∃ ys, (∃ pre, xs = pre ++ ys) ∧ Hid (M.skip xs = M.skip ys) ∧ Wk 89 wr x (.pointer (some ⟨b, 0, none⟩)) ys ∧ But [x] w wr) (fun _ wr => aheadN x wr)
  case atStart => exact ⟨rfl, xs, ⟨[], rfl⟩, rfl, hW, But.refl _ _⟩
  case round =>
    obtain ⟨rfl, ys, ⟨pre, hpre⟩, hsk, hWr, hbr⟩ := hrel
    have hleft := left_any_s x _ ys wr hWr
    cases ys with
    | nil =>
      clear hpre hs
      go_wp2_with fail
      refine same_mono hleft ?_
      go_wp2
      go_ret3
      refine ⟨?_, by rw [hsk.out]; exact hWr, hbr⟩
      unfold SM.nk SM.nv SM.nb
      rw [hsk.out]
      rfl
    | cons k r =>
      have hks : k.size < 140737488355328 := hs k (by rw [hpre]; simp)
      obtain ⟨v, c0, c1, f1, hrow, hob⟩ := hWr.cells
      obtain ⟨p, c, rfl, _⟩ := id hrow
      obtain ⟨g, o, q, rfl, hn, hc, ck, ⟨cur, f, hg⟩, hif, htail⟩ := hrow.tail
      have hset := Wk.set (m := .pointer (some ⟨b, 0, none⟩)) (by decide) hob htail
      have hbs : But [x] w (wr.setCell ⟨x, 1, none⟩ (.slice (some q) r.length (c - 1))) := hbr.setCell (.inl (by simp)) _
      have hL2 := h.other (by decide) hW1 hbs
      have hT2 := hbs.tab hT (by simp; omega)
      have hget := get_map_s b bw bs M k _ hT2 hL2 hI.fit hI.typed hks
      rw [get_val hI, get_is] at hget
      rw [List.length_cons] at hleft
      have hm1 := aheadN_is hWr
      have hm2 := aheadN_is hset
      clear hW1 hob hrow
      go_wp2_with fail
      refine same_mono hleft ?_
      go_wp2_with fail
      refine hget.mono ?_
      rintro e w2 ⟨rfl, hb2⟩
      have hW2 := hset.below hb2
      have hB2 : But [x] w w2 := hbs.trans (But.of_below hb2 (Nat.le_refl _))
      have hm3 := aheadN_is hW2
      clear hget hb2 hset hbs hL2 hT2 htail hif ck hg c1 c0 f1 hWr
      cases hfd : (M.find k).isSome with
      | true =>
        have hsk2 : Hid (M.skip xs = k :: r) := by show _ = _; rw [hsk.out, skip_here hfd]
        go_wp2
        go_ret3
        refine ⟨?_, by rw [hsk2.out]; exact hW2, hB2⟩
        unfold SM.nk SM.nv SM.nb
        rw [hsk2.out]
        rfl
      | false =>
        have hsk2 : Hid (M.skip xs = M.skip r) := by show _ = _; rw [hsk.out, skip_gone hfd]
        have hvz : valK M k = ⟨#[]⟩ := by unfold valK; rw [get_not hfd]
        rw [hvz]
        go_wp2
        go_roundw
        case rel => exact ⟨rfl, r, ⟨pre ++ [k], by rw [hpre]; simp⟩, hsk2, hW2, hB2⟩
        case measure => rw [hm1, hm3]; simp
end Go.Proofs.YtiobfdfmfgjpfaaDoor

/-
  Contracts: corbelref05.made, New.
-/
namespace Go.Proofs.YtiobfdfmfgjpfaaDoor
open Go.RowKit Go.Shelf

theorem infoW_r : (Tryd.prog.info? 22).map (fun i => (i.zero, i.size, i.bytes)) = some (some (.int .u64 0), 1, 8) := by kernel_rfl
theorem infoS_r : (Tryd.prog.info? 84).map (fun i => (i.zero, i.size, i.bytes)) = some (some (.agg #[.string ⟨#[]⟩, .string ⟨#[]⟩]), 2, 32) := by kernel_rfl

/-- 'append(s, x)' of one word: it has just been laid in a block of its own. -/
theorem ap_u64 {ops : Array Oper} {rest : List Oper} {o : Oper} {a : Act} {Q : Exit → Act → World → Prop} (w : World) (hgd : o.guard = none) (s x : Operand)
    (ho : o.op = .call { callee := .builtin .append, args := #[s, x], argTypes := #[78, 78] })
    (B : Nat) (v : Value) (xs : List Nat) (z : Nat) (hs : a.eval s = v) (hx : a.eval x = .slice (some ⟨w.heap.size, 0, none⟩) 1 1) (hown : w.ownsRow B 22 1 v xs.length (cellsW xs)) (hlen : xs.length ≤ 1099511627776) (hB : B ≤ w.heap.size)
    (h : ∀ v' w', w'.ownsRow B 22 1 v' (xs.length + 1) (cellsW (xs ++ [z])) → (w.alloc (.cells #[.int .u64 (z : Int)] 22)).grownBy w' v.ownBlock → wpList Tryd.prog ops Q rest (a.put o.dst v') w') :
    wpList Tryd.prog ops Q (o :: rest) a (w.alloc (.cells #[.int .u64 (z : Int)] 22)) := by
  obtain ⟨i, hi, hz, hsize, hby⟩ := info_parts infoW_r
  refine wpList_append_own _ hgd s x 78 ho B 22 i (.int .u64 0) 1 8 Tryd.underlying78 hi hz hsize hby rfl (by decide) v xs.length (cellsW xs) hs (World.ownsRow.alloc hown _) ⟨w.heap.size, 0, none⟩ 1 1 [.int .u64 (z : Int)] hx rfl ?_ ?_ ?_ ?_ ?_ ?_
  · intro j u hj
    match j, hj with
    | 0, hj => simp at hj; subst hj; simp [Addr.add]
  · intro u hu; simp at hu; subst hu; rfl
  · unfold maxLen; omega
  · omega
  · simp; omega
  · intro v' w' hown' hgrow _
    refine h v' w' ?_ hgrow
    rw [show cellsW (xs ++ [z]) = cellsW xs ++ [.int .u64 (z : Int)] by simp [cellsW]]
    exact hown'
theorem rnew_first (W : World) (a b : Obj) : ((W.alloc a).alloc b).heap[W.heap.size]? = some a := (Below.heap_alloc _ _ _ (by simp)).trans (heap_alloc_new _ _)
theorem rnew_second (W : World) (a b : Obj) : ((W.alloc a).alloc b).heap[W.heap.size + 1]? = some b := by
  have := heap_alloc_new (W.alloc a) b
  rwa [World.size_alloc] at this
/-- A row of words and a block of another type are apart. -/
theorem rowW_apart {w : World} {B n : Nat} {v : Value} {xs : List Value} (h : w.ownsRow B 22 1 v n xs) {k : Nat} {c : Array Value} {e : TypeId} {f : Nat × Nat} (hk : w.heap[k]? = some (.cells c e f)) (he : e ≠ 22) : v.ownBlock ≠ some k := by
  rcases h.2 with ⟨rfl, _⟩ | ⟨g, cap, cur, rfl, _, hg, _⟩
  · intro e; cases e
  · intro e1
    simp only [Value.ownBlock, Option.some.injEq] at e1
    subst e1
    rw [hk] at hg
    simp only [Option.some.injEq, Obj.cells.injEq] at hg
    exact he hg.2.1
/-- The words have come so far. -/
structure HalfR (w : World) (B b bs : Nat) (v : Value) (k0 k1 : Int) (A : Array Value) (g j : Nat) : Prop where
  obj : w.heap[b]? = some (.cells #[.int .u64 k0, .int .u64 k1, v, .slice (some ⟨bs, 0, none⟩) (8 * g) (8 * g), .int .i64 0, .int .i64 0] 87 (0, 0))
  row : w.ownsRow B 22 1 v j (cellsW (List.replicate j noneW))
  slots : w.heap[bs]? = some (.cells A 84 (0, 0))
theorem HalfR.cell {w : World} {B b bs g j : Nat} {v : Value} {k0 k1 : Int} {A : Array Value} (h : HalfR w B b bs v k0 k1 A g j) : w.cell? ⟨b, 2, none⟩ = some v ∧ w.frozen? ⟨b, 2, none⟩ = false := by
  constructor
  · unfold World.cell?; dsimp only; rw [h.obj]; rfl
  · simp [World.frozen?, h.obj]
theorem HalfR.next {w w' : World} {B b bs g j : Nat} {v v' : Value} {k0 k1 : Int} {A : Array Value} (h : HalfR w B b bs v k0 k1 A g j) (hB : B ≤ b ∧ B ≤ bs) (hg : (w.alloc (.cells #[.int .u64 (noneW : Int)] 22)).grownBy w' v.ownBlock)
    (ho : w'.ownsRow B 22 1 v' (j + 1) (cellsW (List.replicate j noneW ++ [noneW]))) : w'.cell? ⟨b, 2, none⟩ = some v ∧ w'.frozen? ⟨b, 2, none⟩ = false ∧ HalfR (w'.setCell ⟨b, 2, none⟩ v') B b bs v' k0 k1 A g (j + 1) ∧ ∀ w0, Below B w0 w → B ≤ w.heap.size → Below B w0 (w'.setCell ⟨b, 2, none⟩ v') := by
  have hb : (w.alloc (.cells #[.int .u64 (noneW : Int)] 22)).heap[b]? = _ := (Below.heap_alloc _ _ _ (Array.getElem?_eq_some_iff.1 h.obj).1).trans h.obj
  have hs : (w.alloc (.cells #[.int .u64 (noneW : Int)] 22)).heap[bs]? = _ := (Below.heap_alloc _ _ _ (Array.getElem?_eq_some_iff.1 h.slots).1).trans h.slots
  have hrow := World.ownsRow.alloc h.row (.cells #[.int .u64 (noneW : Int)] 22)
  have n1 := rowW_apart hrow hb (by decide)
  have n2 := rowW_apart hrow hs (by decide)
  have hb' := (hg.block b (Array.getElem?_eq_some_iff.1 hb).1 (Ne.symm n1)).trans hb
  have hs' := (hg.block bs (Array.getElem?_eq_some_iff.1 hs).1 (Ne.symm n2)).trans hs
  have m1 := rowW_apart ho hb' (by decide)
  have hbs : b ≠ bs := by
    rintro rfl
    have := h.obj
    rw [h.slots] at this
    simp at this
  refine ⟨?_, ?_, ⟨?_, ?_, ?_⟩, fun w0 hw0 hBw => ?_⟩
  · unfold World.cell?; dsimp only; rw [hb']; rfl
  · simp [World.frozen?, hb']
  · simp [World.setCell, Array.getElem?_modify, hb']
  · rw [List.replicate_succ']
    rcases ho.2 with ⟨rfl, hn⟩ | ⟨gg, cap, cur, rfl, hbg, hgg, rest⟩
    · omega
    · refine ⟨ho.1, .inr ⟨gg, cap, cur, rfl, hbg, ?_, rest⟩⟩
      rw [Below.heap_setCell _ _ _ _ (fun e => m1 (by simp [Value.ownBlock, e]))]
      exact hgg
  · rw [Below.heap_setCell _ _ _ _ (fun e => hbs e.symm)]; exact hs'
  · refine Below.setCell ?_ hB.1 _
    exact (hw0.alloc hBw _).grown hg (by simp; omega) fun k hk => (World.ownsRow.lt hrow k hk).1
theorem HalfR.lies {w : World} {B b bs g : Nat} {v : Value} {k0 k1 : Int} {A : Array Value} (h : HalfR w B b bs v k0 k1 A g g) (hg : isGood (g : Int) = true) (hB : 0 < B ∧ B ≤ b ∧ B ≤ bs) (hA : A.toList = cellsS (List.replicate (8 * g) (ByteArray.empty, .string ⟨#[]⟩))) :
    ∃ bw, Lies 87 84 w b bw bs (SM.empty k0 k1 (.string ⟨#[]⟩) g) ∧ B ≤ bw := by
  have hr := good_range hg
  obtain ⟨bw, cap, rfl, hbw⟩ := row_some h.row (by omega)
  have n1 := rowW_apart h.row h.obj (by decide)
  have n2 := rowW_apart h.row h.slots (by decide)
  have hbs : b ≠ bs := by
    rintro rfl
    have := h.obj
    rw [h.slots] at this
    simp at this
  have hAl : A.size = 8 * g * 2 := by rw [← Array.length_toList, hA, cellsS_len, List.length_replicate]
  refine ⟨bw, ⟨⟨cap, 8 * g, ?_, ?_, ⟨?_, .inr ⟨bs, 8 * g, A, ?_, Nat.zero_le _, h.slots, ?_, ?_, hAl, ?_⟩⟩⟩, ⟨fun e => n1 (by simp [Value.ownBlock, e]), hbs, fun e => n2 (by simp [Value.ownBlock, e])⟩, by omega⟩, hbw⟩
  · simp only [SM.empty, List.length_replicate]
    exact h.obj
  · simp only [SM.empty, List.length_replicate]
    exact row_mono h.row (Nat.zero_le _)
  · rw [cellsS_len]
  · simp [SM.empty]
  · simp [SM.empty]
  · unfold maxLen; omega
  · simp only [SM.empty, List.length_replicate]
    rw [hA, List.take_of_length_le (by rw [cellsS_len, List.length_replicate]; omega)]

set_option maxRecDepth 100000 in
set_option maxHeartbeats 4000000 in
theorem rmade_any (k0 k1 : Int) {x : Int} (g : Nat) (hx : x = g) (hg : isGood (g : Int) = true) (w : World) (h0 : 0 < w.heap.size) :
    Calls Tryd.prog 31 #[.int .u64 k0, .int .u64 k1, .int .i64 x] w fun e w' => ∃ b bw bs, e = .returned (.pointer (some ⟨b, 0, none⟩)) ∧
      Lies 87 84 w' b bw bs (SM.empty k0 k1 (.string ⟨#[]⟩) g) ∧ w.heap.size ≤ b ∧ w.heap.size ≤ bw ∧ w.heap.size ≤ bs ∧ Below w.heap.size w w' := by
  subst hx
  have hr := good_range hg
  obtain ⟨i2, hi2, hz2, hs2, hb2⟩ := info_parts infoS_r
  have hmk2 := fun W : World => run_make (P := Tryd.prog) W 85 84 i2 _ Tryd.underlying85 hi2 hz2 .i64 .i64 (8 * (g : Int)) (8 * (g : Int)) (by omega) (by omega) (by rw [hb2]; omega) (by omega)
  rw [hs2] at hmk2
  simp only [show (8 * (g : Int)).toNat = 8 * g by omega, Value.cells] at hmk2
  have hA2 : (madeCells #[.string ⟨#[]⟩, .string ⟨#[]⟩] (8 * g * 2)).toList = cellsS (List.replicate (8 * g) (ByteArray.empty, .string ⟨#[]⟩)) := made_two _ _ _ _ rfl
  generalize madeCells #[.string ⟨#[]⟩, .string ⟨#[]⟩] (8 * g * 2) = A2 at *
  clear hi2 hz2 hs2 hb2 i2
  go_enter Tryd.func31, Tryd.ntmps31
  go_wp2
  go_loopw [8] (fun t wr => ∃ (j : Nat) (v : Value), j ≤ g ∧ t = .int .i64 (j : Nat) ∧ HalfR wr w.heap.size (w.heap.size + 1) w.heap.size v k0 k1 A2 g j ∧ Below w.heap.size w wr) (fun t _ => g - (intOf t).toNat)
  case atStart => exact ⟨0, .slice none 0 0, by omega, rfl, ⟨rnew_second _ _ _, World.ownsRow_nil _ _ _ _, rnew_first _ _ _⟩, ((Below.refl _ _).alloc (Nat.le_refl _) _).alloc (by simp) _⟩
  case round =>
    obtain ⟨j, v, hj, rfl, hh, hbr⟩ := hrel
    obtain ⟨c2, f2⟩ := hh.cell
    by_cases hlt : j < g
    · go_wp2_with (at_builtin; refine ap_u64 _ rfl (.tmp 25) (.tmp 26) rfl w.heap.size _ (List.replicate j noneW) noneW rfl rfl (by rw [List.length_replicate]; exact hh.row) (by simp; omega) hbr.size ?_; intro v' w2 ho hg'; rw [List.length_replicate] at ho; obtain ⟨c2', f2', hn, hbn⟩ := hh.next ⟨by omega, Nat.le_refl _⟩ hg' ho; obtain ⟨gw, cw, rfl, _⟩ := row_some ho (by omega))
      go_roundw
      case rel => exact ⟨j + 1, _, by omega, by simp, hn, hbn w hbr hbr.size⟩
      case measure => simp only [intOf]; omega
    · obtain rfl : j = g := by omega
      go_wp2
      go_ret
      obtain ⟨bw, hl, hbw⟩ := hh.lies hg ⟨h0, by omega, Nat.le_refl _⟩ hA2
      exact ⟨_, bw, w.heap.size, rfl, hl, by omega, hbw, Nat.le_refl _, hbr⟩

set_option maxRecDepth 10000 in
theorem rnew_nil (k0 k1 hint : Int) (w : World) (h1 : -9223372036854775808 ≤ hint) (h2 : hint < 9223372036854775808) (hn : needI hint = 0) :
    Calls Tryd.prog 8 #[.int .u64 k0, .int .u64 k1, .int .i64 hint] w fun e w' => e = .returned (.pointer none) ∧ w' = w := by
  have hneed := rneed_any hint w h1 h2
  rw [hn] at hneed
  go_enter Tryd.func8, Tryd.ntmps8
  go_wp2_with fail
  refine same_mono hneed ?_
  go_wp2
  go_ret
  exact ⟨rfl, rfl⟩

set_option maxRecDepth 10000 in
set_option maxHeartbeats 1000000 in
theorem rnew_any (k0 k1 hint : Int) (w : World) (h0 : 0 < w.heap.size) (h1 : -9223372036854775808 ≤ hint) (h2 : hint < 9223372036854775808) (hn : needI hint ≠ 0) :
    Calls Tryd.prog 8 #[.int .u64 k0, .int .u64 k1, .int .i64 hint] w fun e w' => ∃ b bw bs, e = .returned (.pointer (some ⟨b, 0, none⟩)) ∧
      Lies 87 84 w' b bw bs (SM.empty k0 k1 (.string ⟨#[]⟩) (needI hint).toNat) ∧ w.heap.size ≤ b ∧ w.heap.size ≤ bw ∧ w.heap.size ≤ bs ∧ Below w.heap.size w w' := by
  have hg := (need_good hint).resolve_left hn
  have hr := good_range hg
  have hneed := rneed_any hint w h1 h2
  obtain ⟨q, hq⟩ : ∃ q : Nat, needI hint = q := ⟨(needI hint).toNat, by omega⟩
  rw [hq] at hg hn hr hneed ⊢
  clear hq
  rw [Int.toNat_natCast]
  go_enter Tryd.func8, Tryd.ntmps8
  go_wp2_with fail
  refine same_mono hneed ?_
  have hne : ((q : Int) == 0) = false := by simpa using hn
  go_wp2_with fail
  refine (rmade_any k0 k1 q rfl hg w h0).mono ?_
  rintro e w' ⟨b, bw, bs, rfl, h3, h4, h5, h6, h7⟩
  go_wp2
  go_ret
  exact ⟨b, bw, bs, rfl, h3, h4, h5, h6, h7⟩
end Go.Proofs.YtiobfdfmfgjpfaaDoor

/-
  What a region that only reads four words keeps.
-/
namespace Go.Proofs.YtiobfdfmfgjpfaaDoor
open Go.RowKit

theorem wd_le {x : Int} (h : 0 ≤ x ∧ x ≤ 18446744073709551615) : Wd x := ⟨h.1, by omega⟩

/-- What a region that only reads the four words keeps: they, and what was there ahead of the call. -/
theorem keep4 {w w1 w2 : World} {B : Nat} {a b c d : Int} (hb : Below w1.heap.size w1 w2)
    (h : w1.cell? ⟨B, 0, none⟩ = some (.int .u64 a) ∧ w1.cell? ⟨B, 1, none⟩ = some (.int .u64 b) ∧ w1.cell? ⟨B, 2, none⟩ = some (.int .u64 c) ∧ w1.cell? ⟨B, 3, none⟩ = some (.int .u64 d) ∧ Vat w1 B ⟨a, b, c, d⟩ ∧ Below w.heap.size w w1) :
    w2.cell? ⟨B, 0, none⟩ = some (.int .u64 a) ∧ w2.cell? ⟨B, 1, none⟩ = some (.int .u64 b) ∧ w2.cell? ⟨B, 2, none⟩ = some (.int .u64 c) ∧ w2.cell? ⟨B, 3, none⟩ = some (.int .u64 d) ∧ Vat w2 B ⟨a, b, c, d⟩ ∧ Below w.heap.size w w2 := by
  obtain ⟨_, _, _, _, hv, hw⟩ := h
  have hv2 := hv.below hb (Nat.le_refl _)
  exact ⟨hv2.c0, hv2.c1, hv2.c2, hv2.c3, hv2, hw.trans (hb.mono hw.size)⟩

theorem hold4 {w W : World} {B : Nat} {v : V4} (hv : Vat W B v) (hw : Below w.heap.size w W) :
    W.drew.cell? ⟨B, 0, none⟩ = some (.int .u64 v.a) ∧ W.drew.cell? ⟨B, 1, none⟩ = some (.int .u64 v.b) ∧ W.drew.cell? ⟨B, 2, none⟩ = some (.int .u64 v.c) ∧ W.drew.cell? ⟨B, 3, none⟩ = some (.int .u64 v.d) ∧ Vat W.drew B v ∧ Below w.heap.size w W.drew := by
  have hv2 : Vat W.drew B v := hv
  exact ⟨hv2.c0, hv2.c1, hv2.c2, hv2.c3, hv2, hw.drew⟩

/-- A variable of four words that has just been laid. -/
theorem vat_new (w : World) (v : V4) (B : Nat) (hB : w.heap.size = B) : Vat (w.alloc (.cells #[.int .u64 v.a, .int .u64 v.b, .int .u64 v.c, .int .u64 v.d] 118)) B v := by
  subst hB
  unfold Vat
  rw [heap_alloc_new]
theorem below3 (w : World) (o o' o'' : Obj) : Below w.heap.size w (((w.alloc o).alloc o').alloc o'') :=
  (((Below.refl _ _).alloc (Nat.le_refl _) o).alloc (by simp) o').alloc (by simp; omega) o''

theorem held_below {w w1 : World} {B : Nat} {a b c d : Int}
    (h : w1.cell? ⟨B, 0, none⟩ = some (.int .u64 a) ∧ w1.cell? ⟨B, 1, none⟩ = some (.int .u64 b) ∧ w1.cell? ⟨B, 2, none⟩ = some (.int .u64 c) ∧ w1.cell? ⟨B, 3, none⟩ = some (.int .u64 d) ∧ Vat w1 B ⟨a, b, c, d⟩ ∧ Below w.heap.size w w1) : Below w.heap.size w w1 := h.2.2.2.2.2
end Go.Proofs.YtiobfdfmfgjpfaaDoor
