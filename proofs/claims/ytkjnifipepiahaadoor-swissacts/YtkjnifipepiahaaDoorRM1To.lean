import Derived.Test.YtkjnifipepiahaaDoorSwB2To
import Derived.Laws.OwnMore
/-
  Rows that a call made, and nil slices. No program is named here.
-/
namespace Go.Proofs.YtkjnifipepiahaaDoor
open Go.RowKit Go.Shelf

theorem row_some {w : World} {B : Nat} {e : TypeId} {size n : Nat} {v : Value} {xs : List Value} (h : w.ownsRow B e size v n xs) (hn : 0 < n) : ∃ g cap, v = .slice (some ⟨g, 0, none⟩) n cap ∧ B ≤ g := by
  rcases h.2 with ⟨_, h0⟩ | ⟨g, cap, cur, rfl, hB, _⟩
  · omega
  · exact ⟨g, cap, rfl, hB⟩
theorem equal_slice_nil {P : Program} (d : Nat) (t e : TypeId) (a : Addr) (n c : Nat) (W : World) (h : P.underlying t = some (.slice e)) : (Op.equalIn (d + 1) t (.slice (some a) n c) (.slice none 0 0)).run P W = .ok false W := by
  simp [Op.equalIn, run_underlying h]
theorem row_mono {w : World} {B B' : Nat} {e : TypeId} {size n : Nat} {v : Value} {xs : List Value} (h : w.ownsRow B e size v n xs) (hB : B' ≤ B) : w.ownsRow B' e size v n xs := by
  refine ⟨h.1, ?_⟩
  rcases h.2 with hn | ⟨g, cap, cur, rfl, hb1, rest⟩
  · exact .inl hn
  · exact .inr ⟨g, cap, cur, rfl, Nat.le_trans hB hb1, rest⟩
theorem row_below {w w' : World} {B C : Nat} {e : TypeId} {size n : Nat} {v : Value} {xs : List Value} (h : w.ownsRow B e size v n xs) (hb : Below C w w') (hC : w.heap.size ≤ C) : w'.ownsRow B e size v n xs := by
  refine ⟨h.1, ?_⟩
  rcases h.2 with hn | ⟨g, cap, cur, rfl, hb1, hg, rest⟩
  · exact .inl hn
  · refine .inr ⟨g, cap, cur, rfl, hb1, ?_, rest⟩
    rw [hb.block g (Nat.lt_of_lt_of_le (Array.getElem?_eq_some_iff.1 hg).1 hC)]
    exact hg
theorem row_cells {w : World} {B g n cap size : Nat} {e : TypeId} {xs : List Value} (h : w.ownsRow B e size (.slice (some ⟨g, 0, none⟩) n cap) n xs) : ∀ j u, xs[j]? = some u → w.cell? ((⟨g, 0, none⟩ : Addr).add j) = some u := World.ownsRow.cells h rfl
theorem cellsW_one (ws : List Nat) : ∀ u ∈ cellsW ws, u.oneCell' = true := fun u hu => by
  obtain ⟨n, _, rfl⟩ := List.mem_map.1 hu
  rfl
end Go.Proofs.YtkjnifipepiahaaDoor

/-
  Contracts: New[string]; Map[string].full, as an iterator that tells the places of all keys.
-/
namespace Go.Proofs.YtkjnifipepiahaaDoor
open Go.RowKit Go.Shelf

set_option maxHeartbeats 1000000 in
theorem new_nil_s (k0 k1 hint : Int) (w : World) (h1 : -9223372036854775808 ≤ hint) (h2 : hint < 9223372036854775808) (hn : needI hint = 0) :
    Calls Tryd.prog 9 #[.agg #[.int .u64 k0, .int .u64 k1], .int .i64 hint] w fun e w' => e = .returned (.pointer none) ∧ Below w.heap.size w w' := by
  have hb : Below w.heap.size w (w.alloc (.cells #[.int .u64 k0, .int .u64 k1] 24)) := (Below.refl _ _).alloc (Nat.le_refl _) _
  go_enter Tryd.func9, Tryd.ntmps9
  go_wp2_with (go_at_call 46; refine (need_any _ _ (by omega) (by omega)).mono ?_; rintro e w' ⟨rfl, rfl⟩; rw [hn])
  go_ret
  exact ⟨rfl, hb⟩

set_option maxHeartbeats 1000000 in
theorem new_any_s (k0 k1 hint : Int) (w : World) (h1 : -9223372036854775808 ≤ hint) (h2 : hint < 9223372036854775808) (hn : needI hint ≠ 0) :
    Calls Tryd.prog 9 #[.agg #[.int .u64 k0, .int .u64 k1], .int .i64 hint] w fun e w' => ∃ b bw bs, e = .returned (.pointer (some ⟨b, 0, none⟩)) ∧
      Lies 79 76 w' b bw bs (SM.empty k0 k1 (.string ⟨#[]⟩) (needI hint).toNat) ∧ w.heap.size ≤ b ∧ w.heap.size ≤ bw ∧ w.heap.size ≤ bs ∧ Below w.heap.size w w' := by
  have hg := (need_good hint).resolve_left hn
  have hneed := fun W : World => need_any hint W h1 h2
  have hr := good_range hg
  obtain ⟨g, hgg⟩ : ∃ g : Nat, needI hint = (g : Int) := ⟨(needI hint).toNat, by omega⟩
  rw [hgg] at hg hn hr hneed ⊢
  rw [Int.toNat_natCast]
  have hb : Below w.heap.size w (w.alloc (.cells #[.int .u64 k0, .int .u64 k1] 24)) := (Below.refl _ _).alloc (Nat.le_refl _) _
  clear hgg
  go_enter Tryd.func9, Tryd.ntmps9
  go_wp2_with (go_at_call 46; refine (hneed _).mono ?_; rintro e w' ⟨rfl, rfl⟩)
  refine (empty_any_s k0 k1 g hg _ (by simp)).mono ?_
  rintro e W1 ⟨b, bw, bs, rfl, hl, g1, g2, g3, hb1⟩
  rw [World.size_alloc] at g1 g2 g3
  have hbb := hb.trans (hb1.mono (by simp))
  clear hb1 hb
  go_wp2
  go_ret
  exact ⟨b, bw, bs, rfl, hl, by omega, by omega, by omega, hbb⟩

set_option maxRecDepth 100000 in
set_option maxHeartbeats 4000000 in
theorem full_seq_s (b bw bs N : Nat) (M : SM) (w : World) (hT : Tab w) (h : Lies 79 76 w b bw bs M) (hF : M.Fit) (hN : b < N ∧ bw < N ∧ bs < N) :
    SeqV Tryd.prog 65 #[.pointer (some ⟨b, 0, none⟩)] #[] (fun x : Nat => #[.int .i64 (x : Nat)]) 0 N M.full w := by
  intro l J Jx W hK hJ hJx hY h0
  have hr := good_range hF.good
  have hW := h.keeps hK hN
  have hTW := hT.keeps hK (by omega)
  obtain ⟨cw, cs, _, _, c2, _, _, _, hcw, _⟩ := hW.cells
  refine (callsIn_wide (n := 3)).1 ?_
  refine callsIn_of_wp Tryd.func65 rfl trivial ?_ rfl
  simp only [Tryd.ntmps65, List.size_toArray, List.length_cons, List.length_nil, Nat.reduceAdd, Nat.reduceSub, Array.replicate_succ, Array.replicate_zero, List.push_toArray, List.append_toArray, List.nil_append, List.cons_append]
  gi_wp2
  gi_loopw [12] (fun p wr => ∃ k : Nat, k ≤ M.ws.length ∧ p = .int .i64 (k : Nat) ∧ W.heap.size ≤ wr.heap.size ∧ Keeps 0 N W wr ∧ J W.heap.size (M.fullTo (8 * k)) wr) (fun p _ => M.ws.length - (intOf p).toNat)
  case atStart => exact ⟨0, by omega, rfl, Nat.le_refl _, Keeps.refl _ _ _, h0 W (Below.refl _ _)⟩
  case round =>
    obtain ⟨k, hk, rfl, hz, hkp, hJk⟩ := hrel
    by_cases hlt : k < M.ws.length
    · have hR := hW.keeps hkp hN
      have kw := hR.word k hlt
      have hwl := hF.words k hlt
      have hstep : Hid (M.fullTo (8 * (k + 1)) = M.fullTo (8 * k) ++ (slotsL (fullN (M.w k))).map (8 * k + ·)) := fullTo_step M k
      have hpre0 : Hid (M.fullTo (8 * (k + 1)) <+: M.full) := fullTo_pre M (by omega)
      generalize M.w k = wd at *
      have hfl := fullN_lt wd
      gi_wp2_with (refine ⟨trivial, ?_⟩; gi_at_call 92; refine (callsIn_wide.2 (full_any wd _ hwl)).mono ?_; rintro e X ⟨rfl, rfl⟩)
      gi_loopw [6] (fun p wr => ∃ (q : Nat) (pre : List Nat), p = .int .u8 (q : Nat) ∧ q < 256 ∧ Hid (M.fullTo (8 * (k + 1)) = pre ++ (slotsL q).map (8 * k + ·)) ∧ W.heap.size ≤ wr.heap.size ∧ Keeps 0 N W wr ∧ J W.heap.size pre wr) (fun p _ => (slotsL (intOf p).toNat).length)
      case atStart => exact ⟨_, _, rfl, hfl, hstep, hz, hkp, hJk⟩
      case round =>
        obtain ⟨q, pre, rfl, hq, hp2, hz2, hkp2, hJp⟩ := hrel
        clear hstep hJk kw
        by_cases h0q : q = 0
        · subst h0q
          have hpe : Hid (M.fullTo (8 * (k + 1)) = pre) := by
            have := hp2.out
            rw [slots_zero, List.map_nil, List.append_nil] at this
            exact this
          gi_wp2
          go_roundw
          case rel => exact ⟨k + 1, by omega, by simp, hz2, hkp2, by rw [hpe.out]; exact hJp⟩
          case measure => simp only [intOf]; omega
        · have hst := slots_step ⟨q, hq⟩ h0q
          dsimp only at hst
          have hp3 : Hid (M.fullTo (8 * (k + 1)) = (pre ++ [8 * k + firstN q]) ++ (slotsL (nextN q)).map (8 * k + ·)) := by
            show _ = _
            rw [hp2.out, hst, List.map_cons, List.append_assoc]
            rfl
          have hpre2 : pre ++ [8 * k + firstN q] <+: M.full := by
            refine List.IsPrefix.trans ?_ hpre0.out
            rw [hp3.out]
            exact List.prefix_append _ _
          have hf8 : firstN q < 8 := by
            have : firstN q ∈ slotsL q := by rw [hst]; exact List.mem_cons_self
            exact List.mem_range.1 (List.mem_filter.1 this).1
          have hn8 := nextN_lt q hq
          have hlen : Hid ((slotsL (nextN q)).length < (slotsL q).length) := by
            show _ < _
            rw [hst]; simp
          have hf := first_any q wr (hTW.keeps hkp2 (by omega)) hq
          have hnx := fun W => next_any q W hq
          clear hst hp2
          generalize firstN q = f at *
          obtain ⟨fn, tmps, assign, body, hy, hR⟩ := YieldAt.wide (m' := 2) (hY W.heap.size pre (8 * k + f) wr (Nat.le_refl _) hz2 hpre2 hJp)
          rw [show ((8 * k + f : Nat) : Int) = 8 * (k : Int) + (f : Int) by omega] at hy
          gi_wp2_with (refine ⟨trivial, ?_⟩; gi_at_call 84; refine (callsIn_wide.2 hf).mono ?_; rintro e X ⟨rfl, rfl⟩)
          refine hR.mono ?_
          clear hR hy
          rintro e W3 ⟨bb, rfl, hk1, hk2, hb⟩
          have hz3 := hk2.size
          cases bb with
          | true =>
            rw [if_pos rfl] at hb
            gi_wp2_with (refine ⟨trivial, ?_⟩; gi_at_call 83; refine (callsIn_wide.2 (hnx _)).mono ?_; rintro e X3 ⟨rfl, rfl⟩)
            go_roundw
            case rel => exact ⟨nextN q, _, rfl, hn8, hp3, by omega, hkp2.trans hk1, hb⟩
            case measure => exact hlen.out
          | false =>
            rw [if_neg (by simp)] at hb
            gi_wp2
            refine bodyPost_ret (results_none rfl _ _ _) rfl ?_
            exact ⟨⟨_, rfl⟩, W.heap.size, Nat.le_refl _, .inr ⟨_, hpre2, hb⟩⟩
    · obtain rfl : k = M.ws.length := by omega
      gi_wp2
      go_end0
      exact ⟨⟨_, rfl⟩, W.heap.size, Nat.le_refl _, .inl hJk⟩
end Go.Proofs.YtkjnifipepiahaaDoor

/-
  Contracts: corbelref05.made, New.
-/
namespace Go.Proofs.YtkjnifipepiahaaDoor
open Go.RowKit Go.Shelf

theorem infoW_r : (Tryd.prog.info? 22).map (fun i => (i.zero, i.size, i.bytes)) = some (some (.int .u64 0), 1, 8) := by kernel_rfl
theorem infoS_r : (Tryd.prog.info? 82).map (fun i => (i.zero, i.size, i.bytes)) = some (some (.agg #[.string ⟨#[]⟩, .string ⟨#[]⟩]), 2, 32) := by kernel_rfl

/-- 'append(s, x)' of one word: it has just been laid in a block of its own. -/
theorem ap_u64 {ops : Array Oper} {rest : List Oper} {o : Oper} {a : Act} {Q : Exit → Act → World → Prop} (w : World) (hgd : o.guard = none) (s x : Operand)
    (ho : o.op = .call { callee := .builtin .append, args := #[s, x], argTypes := #[48, 48] })
    (B : Nat) (v : Value) (xs : List Nat) (z : Nat) (hs : a.eval s = v) (hx : a.eval x = .slice (some ⟨w.heap.size, 0, none⟩) 1 1) (hown : w.ownsRow B 22 1 v xs.length (cellsW xs)) (hlen : xs.length ≤ 1099511627776) (hB : B ≤ w.heap.size)
    (h : ∀ v' w', w'.ownsRow B 22 1 v' (xs.length + 1) (cellsW (xs ++ [z])) → (w.alloc (.cells #[.int .u64 (z : Int)] 22)).grownBy w' v.ownBlock → wpList Tryd.prog ops Q rest (a.put o.dst v') w') :
    wpList Tryd.prog ops Q (o :: rest) a (w.alloc (.cells #[.int .u64 (z : Int)] 22)) := by
  obtain ⟨i, hi, hz, hsize, hby⟩ := info_parts infoW_r
  refine wpList_append_own _ hgd s x 48 ho B 22 i (.int .u64 0) 1 8 Tryd.underlying48 hi hz hsize hby rfl (by decide) v xs.length (cellsW xs) hs (World.ownsRow.alloc hown _) ⟨w.heap.size, 0, none⟩ 1 1 [.int .u64 (z : Int)] hx rfl ?_ ?_ ?_ ?_ ?_ ?_
  · intro j u hj
    match j, hj with
    | 0, hj => simp at hj; subst hj; simp [Addr.add]
  · intro u hu; simp at hu; subst hu; rfl
  · unfold maxLen; omega
  · omega
  · simp; omega
  · intro v' w' hown' hgrow _
    refine h v' w' ?_ hgrow
    rw [show cellsW (xs ++ [z]) = cellsW xs ++ [.int .u64 (z : Int)] by simp [cellsW]]
    exact hown'
theorem rnew_first (W : World) (a b : Obj) : ((W.alloc a).alloc b).heap[W.heap.size]? = some a := (Below.heap_alloc _ _ _ (by simp)).trans (heap_alloc_new _ _)
theorem rnew_second (W : World) (a b : Obj) : ((W.alloc a).alloc b).heap[W.heap.size + 1]? = some b := by
  have := heap_alloc_new (W.alloc a) b
  rwa [World.size_alloc] at this
/-- A row of words and a block of another type are apart. -/
theorem rowW_apart {w : World} {B n : Nat} {v : Value} {xs : List Value} (h : w.ownsRow B 22 1 v n xs) {k : Nat} {c : Array Value} {e : TypeId} {f : Nat × Nat} (hk : w.heap[k]? = some (.cells c e f)) (he : e ≠ 22) : v.ownBlock ≠ some k := by
  rcases h.2 with ⟨rfl, _⟩ | ⟨g, cap, cur, rfl, _, hg, _⟩
  · intro e; cases e
  · intro e1
    simp only [Value.ownBlock, Option.some.injEq] at e1
    subst e1
    rw [hk] at hg
    simp only [Option.some.injEq, Obj.cells.injEq] at hg
    exact he hg.2.1
/-- The words have come so far. -/
structure HalfR (w : World) (B b bs : Nat) (v : Value) (k0 k1 : Int) (A : Array Value) (g j : Nat) : Prop where
  obj : w.heap[b]? = some (.cells #[.int .u64 k0, .int .u64 k1, v, .slice (some ⟨bs, 0, none⟩) (8 * g) (8 * g), .int .i64 0, .int .i64 0] 85 (0, 0))
  row : w.ownsRow B 22 1 v j (cellsW (List.replicate j noneW))
  slots : w.heap[bs]? = some (.cells A 82 (0, 0))
theorem HalfR.cell {w : World} {B b bs g j : Nat} {v : Value} {k0 k1 : Int} {A : Array Value} (h : HalfR w B b bs v k0 k1 A g j) : w.cell? ⟨b, 2, none⟩ = some v ∧ w.frozen? ⟨b, 2, none⟩ = false := by
  constructor
  · unfold World.cell?; dsimp only; rw [h.obj]; rfl
  · simp [World.frozen?, h.obj]
theorem HalfR.next {w w' : World} {B b bs g j : Nat} {v v' : Value} {k0 k1 : Int} {A : Array Value} (h : HalfR w B b bs v k0 k1 A g j) (hB : B ≤ b ∧ B ≤ bs) (hg : (w.alloc (.cells #[.int .u64 (noneW : Int)] 22)).grownBy w' v.ownBlock)
    (ho : w'.ownsRow B 22 1 v' (j + 1) (cellsW (List.replicate j noneW ++ [noneW]))) : w'.cell? ⟨b, 2, none⟩ = some v ∧ w'.frozen? ⟨b, 2, none⟩ = false ∧ HalfR (w'.setCell ⟨b, 2, none⟩ v') B b bs v' k0 k1 A g (j + 1) ∧ ∀ w0, Below B w0 w → B ≤ w.heap.size → Below B w0 (w'.setCell ⟨b, 2, none⟩ v') := by
  have hb : (w.alloc (.cells #[.int .u64 (noneW : Int)] 22)).heap[b]? = _ := (Below.heap_alloc _ _ _ (Array.getElem?_eq_some_iff.1 h.obj).1).trans h.obj
  have hs : (w.alloc (.cells #[.int .u64 (noneW : Int)] 22)).heap[bs]? = _ := (Below.heap_alloc _ _ _ (Array.getElem?_eq_some_iff.1 h.slots).1).trans h.slots
  have hrow := World.ownsRow.alloc h.row (.cells #[.int .u64 (noneW : Int)] 22)
  have n1 := rowW_apart hrow hb (by decide)
  have n2 := rowW_apart hrow hs (by decide)
  have hb' := (hg.block b (Array.getElem?_eq_some_iff.1 hb).1 (Ne.symm n1)).trans hb
  have hs' := (hg.block bs (Array.getElem?_eq_some_iff.1 hs).1 (Ne.symm n2)).trans hs
  have m1 := rowW_apart ho hb' (by decide)
  have hbs : b ≠ bs := by
    rintro rfl
    have := h.obj
    rw [h.slots] at this
    simp at this
  refine ⟨?_, ?_, ⟨?_, ?_, ?_⟩, fun w0 hw0 hBw => ?_⟩
  · unfold World.cell?; dsimp only; rw [hb']; rfl
  · simp [World.frozen?, hb']
  · simp [World.setCell, Array.getElem?_modify, hb']
  · rw [List.replicate_succ']
    rcases ho.2 with ⟨rfl, hn⟩ | ⟨gg, cap, cur, rfl, hbg, hgg, rest⟩
    · omega
    · refine ⟨ho.1, .inr ⟨gg, cap, cur, rfl, hbg, ?_, rest⟩⟩
      rw [Below.heap_setCell _ _ _ _ (fun e => m1 (by simp [Value.ownBlock, e]))]
      exact hgg
  · rw [Below.heap_setCell _ _ _ _ (fun e => hbs e.symm)]; exact hs'
  · refine Below.setCell ?_ hB.1 _
    exact (hw0.alloc hBw _).grown hg (by simp; omega) fun k hk => (World.ownsRow.lt hrow k hk).1
theorem HalfR.lies {w : World} {B b bs g : Nat} {v : Value} {k0 k1 : Int} {A : Array Value} (h : HalfR w B b bs v k0 k1 A g g) (hg : isGood (g : Int) = true) (hB : 0 < B ∧ B ≤ b ∧ B ≤ bs) (hA : A.toList = cellsS (List.replicate (8 * g) (ByteArray.empty, .string ⟨#[]⟩))) :
    ∃ bw, Lies 85 82 w b bw bs (SM.empty k0 k1 (.string ⟨#[]⟩) g) ∧ B ≤ bw := by
  have hr := good_range hg
  obtain ⟨bw, cap, rfl, hbw⟩ := row_some h.row (by omega)
  have n1 := rowW_apart h.row h.obj (by decide)
  have n2 := rowW_apart h.row h.slots (by decide)
  have hbs : b ≠ bs := by
    rintro rfl
    have := h.obj
    rw [h.slots] at this
    simp at this
  have hAl : A.size = 8 * g * 2 := by rw [← Array.length_toList, hA, cellsS_len, List.length_replicate]
  refine ⟨bw, ⟨⟨cap, 8 * g, ?_, ?_, ⟨?_, .inr ⟨bs, 8 * g, A, ?_, Nat.zero_le _, h.slots, ?_, ?_, hAl, ?_⟩⟩⟩, ⟨fun e => n1 (by simp [Value.ownBlock, e]), hbs, fun e => n2 (by simp [Value.ownBlock, e])⟩, by omega⟩, hbw⟩
  · simp only [SM.empty, List.length_replicate]
    exact h.obj
  · simp only [SM.empty, List.length_replicate]
    exact row_mono h.row (Nat.zero_le _)
  · rw [cellsS_len]
  · simp [SM.empty]
  · simp [SM.empty]
  · unfold maxLen; omega
  · simp only [SM.empty, List.length_replicate]
    rw [hA, List.take_of_length_le (by rw [cellsS_len, List.length_replicate]; omega)]

set_option maxRecDepth 100000 in
set_option maxHeartbeats 4000000 in
theorem rmade_any (k0 k1 : Int) {x : Int} (g : Nat) (hx : x = g) (hg : isGood (g : Int) = true) (w : World) (h0 : 0 < w.heap.size) :
    Calls Tryd.prog 49 #[.int .u64 k0, .int .u64 k1, .int .i64 x] w fun e w' => ∃ b bw bs, e = .returned (.pointer (some ⟨b, 0, none⟩)) ∧
      Lies 85 82 w' b bw bs (SM.empty k0 k1 (.string ⟨#[]⟩) g) ∧ w.heap.size ≤ b ∧ w.heap.size ≤ bw ∧ w.heap.size ≤ bs ∧ Below w.heap.size w w' := by
  subst hx
  have hr := good_range hg
  obtain ⟨i2, hi2, hz2, hs2, hb2⟩ := info_parts infoS_r
  have hmk2 := fun W : World => run_make (P := Tryd.prog) W 83 82 i2 _ Tryd.underlying83 hi2 hz2 .i64 .i64 (8 * (g : Int)) (8 * (g : Int)) (by omega) (by omega) (by rw [hb2]; omega) (by omega)
  rw [hs2] at hmk2
  simp only [show (8 * (g : Int)).toNat = 8 * g by omega, Value.cells] at hmk2
  have hA2 : (madeCells #[.string ⟨#[]⟩, .string ⟨#[]⟩] (8 * g * 2)).toList = cellsS (List.replicate (8 * g) (ByteArray.empty, .string ⟨#[]⟩)) := made_two _ _ _ _ rfl
  generalize madeCells #[.string ⟨#[]⟩, .string ⟨#[]⟩] (8 * g * 2) = A2 at *
  clear hi2 hz2 hs2 hb2 i2
  go_enter Tryd.func49, Tryd.ntmps49
  go_wp2
  go_loopw [8] (fun t wr => ∃ (j : Nat) (v : Value), j ≤ g ∧ t = .int .i64 (j : Nat) ∧ HalfR wr w.heap.size (w.heap.size + 1) w.heap.size v k0 k1 A2 g j ∧ Below w.heap.size w wr) (fun t _ => g - (intOf t).toNat)
  case atStart => exact ⟨0, .slice none 0 0, by omega, rfl, ⟨rnew_second _ _ _, World.ownsRow_nil _ _ _ _, rnew_first _ _ _⟩, ((Below.refl _ _).alloc (Nat.le_refl _) _).alloc (by simp) _⟩
  case round =>
    obtain ⟨j, v, hj, rfl, hh, hbr⟩ := hrel
    obtain ⟨c2, f2⟩ := hh.cell
    by_cases hlt : j < g
    · go_wp2_with (at_builtin; refine ap_u64 _ rfl (.tmp 25) (.tmp 26) rfl w.heap.size _ (List.replicate j noneW) noneW rfl rfl (by rw [List.length_replicate]; exact hh.row) (by simp; omega) hbr.size ?_; intro v' w2 ho hg'; rw [List.length_replicate] at ho; obtain ⟨c2', f2', hn, hbn⟩ := hh.next ⟨by omega, Nat.le_refl _⟩ hg' ho; obtain ⟨gw, cw, rfl, _⟩ := row_some ho (by omega))
      go_roundw
      case rel => exact ⟨j + 1, _, by omega, by simp, hn, hbn w hbr hbr.size⟩
      case measure => simp only [intOf]; omega
    · obtain rfl : j = g := by omega
      go_wp2
      go_ret
      obtain ⟨bw, hl, hbw⟩ := hh.lies hg ⟨h0, by omega, Nat.le_refl _⟩ hA2
      exact ⟨_, bw, w.heap.size, rfl, hl, by omega, hbw, Nat.le_refl _, hbr⟩

set_option maxRecDepth 10000 in
theorem rnew_nil (k0 k1 hint : Int) (w : World) (h1 : -9223372036854775808 ≤ hint) (h2 : hint < 9223372036854775808) (hn : needI hint = 0) :
    Calls Tryd.prog 10 #[.int .u64 k0, .int .u64 k1, .int .i64 hint] w fun e w' => e = .returned (.pointer none) ∧ w' = w := by
  have hneed := rneed_any hint w h1 h2
  rw [hn] at hneed
  go_enter Tryd.func10, Tryd.ntmps10
  go_wp2_with fail
  refine same_mono hneed ?_
  go_wp2
  go_ret
  exact ⟨rfl, rfl⟩

set_option maxRecDepth 10000 in
set_option maxHeartbeats 1000000 in
theorem rnew_any (k0 k1 hint : Int) (w : World) (h0 : 0 < w.heap.size) (h1 : -9223372036854775808 ≤ hint) (h2 : hint < 9223372036854775808) (hn : needI hint ≠ 0) :
    Calls Tryd.prog 10 #[.int .u64 k0, .int .u64 k1, .int .i64 hint] w fun e w' => ∃ b bw bs, e = .returned (.pointer (some ⟨b, 0, none⟩)) ∧
      Lies 85 82 w' b bw bs (SM.empty k0 k1 (.string ⟨#[]⟩) (needI hint).toNat) ∧ w.heap.size ≤ b ∧ w.heap.size ≤ bw ∧ w.heap.size ≤ bs ∧ Below w.heap.size w w' := by
  have hg := (need_good hint).resolve_left hn
  have hr := good_range hg
  have hneed := rneed_any hint w h1 h2
  obtain ⟨q, hq⟩ : ∃ q : Nat, needI hint = q := ⟨(needI hint).toNat, by omega⟩
  rw [hq] at hg hn hr hneed ⊢
  clear hq
  rw [Int.toNat_natCast]
  go_enter Tryd.func10, Tryd.ntmps10
  go_wp2_with fail
  refine same_mono hneed ?_
  have hne : ((q : Int) == 0) = false := by simpa using hn
  go_wp2_with fail
  refine (rmade_any k0 k1 q rfl hg w h0).mono ?_
  rintro e w' ⟨b, bw, bs, rfl, h3, h4, h5, h6, h7⟩
  go_wp2
  go_ret
  exact ⟨b, bw, bs, rfl, h3, h4, h5, h6, h7⟩
end Go.Proofs.YtkjnifipepiahaaDoor
