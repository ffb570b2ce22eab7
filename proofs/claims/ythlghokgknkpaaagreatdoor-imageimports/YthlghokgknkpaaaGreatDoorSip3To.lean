import Derived.Test.YthlghokgknkpaaaGreatDoorSwEsTo
import Derived.Test.YthlghokgknkpaaaGreatDoorSwB3To
import Derived.Laws.OwnMore
import Derived.Test.YthlghokgknkpaaaGreatDoorSwGsTo
import Derived.Test.YthlghokgknkpaaaGreatDoorRngTo
import Derived.Deep.RegionHeld3
import Derived.Test.YthlghokgknkpaaaGreatDoorSip2To
/-
  Contracts: corbelref05.made, New.
-/
namespace Go.Proofs.YthlghokgknkpaaaGreatDoor
open Go.RowKit Go.Shelf

theorem infoW_r : (Tryz.prog.info? 22).map (fun i => (i.zero, i.size, i.bytes)) = some (some (.int .u64 0), 1, 8) := by kernel_rfl
theorem infoS_r : (Tryz.prog.info? 76).map (fun i => (i.zero, i.size, i.bytes)) = some (some (.agg #[.string ⟨#[]⟩, .string ⟨#[]⟩]), 2, 32) := by kernel_rfl

/-- 'append(s, x)' of one word: it has just been laid in a block of its own. -/
theorem ap_u64 {ops : Array Oper} {rest : List Oper} {o : Oper} {a : Act} {Q : Exit → Act → World → Prop} (w : World) (hgd : o.guard = none) (s x : Operand)
    (ho : o.op = .call { callee := .builtin .append, args := #[s, x], argTypes := #[59, 59] })
    (B : Nat) (v : Value) (xs : List Nat) (z : Nat) (hs : a.eval s = v) (hx : a.eval x = .slice (some ⟨w.heap.size, 0, none⟩) 1 1) (hown : w.ownsRow B 22 1 v xs.length (cellsW xs)) (hlen : xs.length ≤ 1099511627776) (hB : B ≤ w.heap.size)
    (h : ∀ v' w', w'.ownsRow B 22 1 v' (xs.length + 1) (cellsW (xs ++ [z])) → (w.alloc (.cells #[.int .u64 (z : Int)] 22)).grownBy w' v.ownBlock → wpList Tryz.prog ops Q rest (a.put o.dst v') w') :
    wpList Tryz.prog ops Q (o :: rest) a (w.alloc (.cells #[.int .u64 (z : Int)] 22)) := by
  obtain ⟨i, hi, hz, hsize, hby⟩ := info_parts infoW_r
  refine wpList_append_own _ hgd s x 59 ho B 22 i (.int .u64 0) 1 8 Tryz.underlying59 hi hz hsize hby rfl (by decide) v xs.length (cellsW xs) hs (World.ownsRow.alloc hown _) ⟨w.heap.size, 0, none⟩ 1 1 [.int .u64 (z : Int)] hx rfl ?_ ?_ ?_ ?_ ?_ ?_
  · intro j u hj
    match j, hj with
    | 0, hj => simp at hj; subst hj; simp [Addr.add]
  · intro u hu; simp at hu; subst hu; rfl
  · unfold maxLen; omega
  · omega
  · simp; omega
  · intro v' w' hown' hgrow _
    refine h v' w' ?_ hgrow
    rw [show cellsW (xs ++ [z]) = cellsW xs ++ [.int .u64 (z : Int)] by simp [cellsW]]
    exact hown'
theorem rnew_first (W : World) (a b : Obj) : ((W.alloc a).alloc b).heap[W.heap.size]? = some a := (Below.heap_alloc _ _ _ (by simp)).trans (heap_alloc_new _ _)
theorem rnew_second (W : World) (a b : Obj) : ((W.alloc a).alloc b).heap[W.heap.size + 1]? = some b := by
  have := heap_alloc_new (W.alloc a) b
  rwa [World.size_alloc] at this
/-- A row of words and a block of another type are apart. -/
theorem rowW_apart {w : World} {B n : Nat} {v : Value} {xs : List Value} (h : w.ownsRow B 22 1 v n xs) {k : Nat} {c : Array Value} {e : TypeId} {f : Nat × Nat} (hk : w.heap[k]? = some (.cells c e f)) (he : e ≠ 22) : v.ownBlock ≠ some k := by
  rcases h.2 with ⟨rfl, _⟩ | ⟨g, cap, cur, rfl, _, hg, _⟩
  · intro e; cases e
  · intro e1
    simp only [Value.ownBlock, Option.some.injEq] at e1
    subst e1
    rw [hk] at hg
    simp only [Option.some.injEq, Obj.cells.injEq] at hg
    exact he hg.2.1
/-- The words have come so far. -/
structure HalfR (w : World) (B b bs : Nat) (v : Value) (k0 k1 : Int) (A : Array Value) (g j : Nat) : Prop where
  obj : w.heap[b]? = some (.cells #[.int .u64 k0, .int .u64 k1, v, .slice (some ⟨bs, 0, none⟩) (8 * g) (8 * g), .int .i64 0, .int .i64 0] 63 (0, 0))
  row : w.ownsRow B 22 1 v j (cellsW (List.replicate j noneW))
  slots : w.heap[bs]? = some (.cells A 76 (0, 0))
theorem HalfR.cell {w : World} {B b bs g j : Nat} {v : Value} {k0 k1 : Int} {A : Array Value} (h : HalfR w B b bs v k0 k1 A g j) : w.cell? ⟨b, 2, none⟩ = some v ∧ w.frozen? ⟨b, 2, none⟩ = false := by
  constructor
  · unfold World.cell?; dsimp only; rw [h.obj]; rfl
  · simp [World.frozen?, h.obj]
theorem HalfR.next {w w' : World} {B b bs g j : Nat} {v v' : Value} {k0 k1 : Int} {A : Array Value} (h : HalfR w B b bs v k0 k1 A g j) (hB : B ≤ b ∧ B ≤ bs) (hg : (w.alloc (.cells #[.int .u64 (noneW : Int)] 22)).grownBy w' v.ownBlock)
    (ho : w'.ownsRow B 22 1 v' (j + 1) (cellsW (List.replicate j noneW ++ [noneW]))) : w'.cell? ⟨b, 2, none⟩ = some v ∧ w'.frozen? ⟨b, 2, none⟩ = false ∧ HalfR (w'.setCell ⟨b, 2, none⟩ v') B b bs v' k0 k1 A g (j + 1) ∧ ∀ w0, Below B w0 w → B ≤ w.heap.size → Below B w0 (w'.setCell ⟨b, 2, none⟩ v') := by
  have hb : (w.alloc (.cells #[.int .u64 (noneW : Int)] 22)).heap[b]? = _ := (Below.heap_alloc _ _ _ (Array.getElem?_eq_some_iff.1 h.obj).1).trans h.obj
  have hs : (w.alloc (.cells #[.int .u64 (noneW : Int)] 22)).heap[bs]? = _ := (Below.heap_alloc _ _ _ (Array.getElem?_eq_some_iff.1 h.slots).1).trans h.slots
  have hrow := World.ownsRow.alloc h.row (.cells #[.int .u64 (noneW : Int)] 22)
  have n1 := rowW_apart hrow hb (by decide)
  have n2 := rowW_apart hrow hs (by decide)
  have hb' := (hg.block b (Array.getElem?_eq_some_iff.1 hb).1 (Ne.symm n1)).trans hb
  have hs' := (hg.block bs (Array.getElem?_eq_some_iff.1 hs).1 (Ne.symm n2)).trans hs
  have m1 := rowW_apart ho hb' (by decide)
  have hbs : b ≠ bs := by
    rintro rfl
    have := h.obj
    rw [h.slots] at this
    simp at this
  refine ⟨?_, ?_, ⟨?_, ?_, ?_⟩, fun w0 hw0 hBw => ?_⟩
  · unfold World.cell?; dsimp only; rw [hb']; rfl
  · simp [World.frozen?, hb']
  · simp [World.setCell, Array.getElem?_modify, hb']
  · rw [List.replicate_succ']
    rcases ho.2 with ⟨rfl, hn⟩ | ⟨gg, cap, cur, rfl, hbg, hgg, rest⟩
    · omega
    · refine ⟨ho.1, .inr ⟨gg, cap, cur, rfl, hbg, ?_, rest⟩⟩
      rw [Below.heap_setCell _ _ _ _ (fun e => m1 (by simp [Value.ownBlock, e]))]
      exact hgg
  · rw [Below.heap_setCell _ _ _ _ (fun e => hbs e.symm)]; exact hs'
  · refine Below.setCell ?_ hB.1 _
    exact (hw0.alloc hBw _).grown hg (by simp; omega) fun k hk => (World.ownsRow.lt hrow k hk).1
theorem HalfR.lies {w : World} {B b bs g : Nat} {v : Value} {k0 k1 : Int} {A : Array Value} (h : HalfR w B b bs v k0 k1 A g g) (hg : isGood (g : Int) = true) (hB : 0 < B ∧ B ≤ b ∧ B ≤ bs) (hA : A.toList = cellsS (List.replicate (8 * g) (ByteArray.empty, .string ⟨#[]⟩))) :
    ∃ bw, Lies 63 76 w b bw bs (SM.empty k0 k1 (.string ⟨#[]⟩) g) ∧ B ≤ bw := by
  have hr := good_range hg
  obtain ⟨bw, cap, rfl, hbw⟩ := row_some h.row (by omega)
  have n1 := rowW_apart h.row h.obj (by decide)
  have n2 := rowW_apart h.row h.slots (by decide)
  have hbs : b ≠ bs := by
    rintro rfl
    have := h.obj
    rw [h.slots] at this
    simp at this
  have hAl : A.size = 8 * g * 2 := by rw [← Array.length_toList, hA, cellsS_len, List.length_replicate]
  refine ⟨bw, ⟨⟨cap, 8 * g, ?_, ?_, ⟨?_, .inr ⟨bs, 8 * g, A, ?_, Nat.zero_le _, h.slots, ?_, ?_, hAl, ?_⟩⟩⟩, ⟨fun e => n1 (by simp [Value.ownBlock, e]), hbs, fun e => n2 (by simp [Value.ownBlock, e])⟩, by omega⟩, hbw⟩
  · simp only [SM.empty, List.length_replicate]
    exact h.obj
  · simp only [SM.empty, List.length_replicate]
    exact row_mono h.row (Nat.zero_le _)
  · rw [cellsS_len]
  · simp [SM.empty]
  · simp [SM.empty]
  · unfold maxLen; omega
  · simp only [SM.empty, List.length_replicate]
    rw [hA, List.take_of_length_le (by rw [cellsS_len, List.length_replicate]; omega)]

set_option maxRecDepth 100000 in
set_option maxHeartbeats 4000000 in
theorem rmade_any (k0 k1 : Int) {x : Int} (g : Nat) (hx : x = g) (hg : isGood (g : Int) = true) (w : World) (h0 : 0 < w.heap.size) :
    Calls Tryz.prog 32 #[.int .u64 k0, .int .u64 k1, .int .i64 x] w fun e w' => ∃ b bw bs, e = .returned (.pointer (some ⟨b, 0, none⟩)) ∧
      Lies 63 76 w' b bw bs (SM.empty k0 k1 (.string ⟨#[]⟩) g) ∧ w.heap.size ≤ b ∧ w.heap.size ≤ bw ∧ w.heap.size ≤ bs ∧ Below w.heap.size w w' := by
  subst hx
  have hr := good_range hg
  obtain ⟨i2, hi2, hz2, hs2, hb2⟩ := info_parts infoS_r
  have hmk2 := fun W : World => run_make (P := Tryz.prog) W 61 76 i2 _ Tryz.underlying61 hi2 hz2 .i64 .i64 (8 * (g : Int)) (8 * (g : Int)) (by omega) (by omega) (by rw [hb2]; omega) (by omega)
  rw [hs2] at hmk2
  simp only [show (8 * (g : Int)).toNat = 8 * g by omega, Value.cells] at hmk2
  have hA2 : (madeCells #[.string ⟨#[]⟩, .string ⟨#[]⟩] (8 * g * 2)).toList = cellsS (List.replicate (8 * g) (ByteArray.empty, .string ⟨#[]⟩)) := made_two _ _ _ _ rfl
  generalize madeCells #[.string ⟨#[]⟩, .string ⟨#[]⟩] (8 * g * 2) = A2 at *
  clear hi2 hz2 hs2 hb2 i2
  go_enter Tryz.func32, Tryz.ntmps32
  go_wp2
  go_loopw [8] (fun t wr => ∃ (j : Nat) (v : Value), j ≤ g ∧ t = .int .i64 (j : Nat) ∧ HalfR wr w.heap.size (w.heap.size + 1) w.heap.size v k0 k1 A2 g j ∧ Below w.heap.size w wr) (fun t _ => g - (intOf t).toNat)
  case atStart => exact ⟨0, .slice none 0 0, by omega, rfl, ⟨rnew_second _ _ _, World.ownsRow_nil _ _ _ _, rnew_first _ _ _⟩, ((Below.refl _ _).alloc (Nat.le_refl _) _).alloc (by simp) _⟩
  case round =>
    obtain ⟨j, v, hj, rfl, hh, hbr⟩ := hrel
    obtain ⟨c2, f2⟩ := hh.cell
    by_cases hlt : j < g
    · go_wp2_with (at_builtin; refine ap_u64 _ rfl (.tmp 25) (.tmp 26) rfl w.heap.size _ (List.replicate j noneW) noneW rfl rfl (by rw [List.length_replicate]; exact hh.row) (by simp; omega) hbr.size ?_; intro v' w2 ho hg'; rw [List.length_replicate] at ho; obtain ⟨c2', f2', hn, hbn⟩ := hh.next ⟨by omega, Nat.le_refl _⟩ hg' ho; obtain ⟨gw, cw, rfl, _⟩ := row_some ho (by omega))
      go_roundw
      case rel => exact ⟨j + 1, _, by omega, by simp, hn, hbn w hbr hbr.size⟩
      case measure => simp only [intOf]; omega
    · obtain rfl : j = g := by omega
      go_wp2
      go_ret
      obtain ⟨bw, hl, hbw⟩ := hh.lies hg ⟨h0, by omega, Nat.le_refl _⟩ hA2
      exact ⟨_, bw, w.heap.size, rfl, hl, by omega, hbw, Nat.le_refl _, hbr⟩

set_option maxRecDepth 10000 in
theorem rnew_nil (k0 k1 hint : Int) (w : World) (h1 : -9223372036854775808 ≤ hint) (h2 : hint < 9223372036854775808) (hn : needI hint = 0) :
    Calls Tryz.prog 7 #[.int .u64 k0, .int .u64 k1, .int .i64 hint] w fun e w' => e = .returned (.pointer none) ∧ w' = w := by
  have hneed := rneed_any hint w h1 h2
  rw [hn] at hneed
  go_enter Tryz.func7, Tryz.ntmps7
  go_wp2_with fail
  refine same_mono hneed ?_
  go_wp2
  go_ret
  exact ⟨rfl, rfl⟩

set_option maxRecDepth 10000 in
set_option maxHeartbeats 1000000 in
theorem rnew_any (k0 k1 hint : Int) (w : World) (h0 : 0 < w.heap.size) (h1 : -9223372036854775808 ≤ hint) (h2 : hint < 9223372036854775808) (hn : needI hint ≠ 0) :
    Calls Tryz.prog 7 #[.int .u64 k0, .int .u64 k1, .int .i64 hint] w fun e w' => ∃ b bw bs, e = .returned (.pointer (some ⟨b, 0, none⟩)) ∧
      Lies 63 76 w' b bw bs (SM.empty k0 k1 (.string ⟨#[]⟩) (needI hint).toNat) ∧ w.heap.size ≤ b ∧ w.heap.size ≤ bw ∧ w.heap.size ≤ bs ∧ Below w.heap.size w w' := by
  have hg := (need_good hint).resolve_left hn
  have hr := good_range hg
  have hneed := rneed_any hint w h1 h2
  obtain ⟨q, hq⟩ : ∃ q : Nat, needI hint = q := ⟨(needI hint).toNat, by omega⟩
  rw [hq] at hg hn hr hneed ⊢
  clear hq
  rw [Int.toNat_natCast]
  go_enter Tryz.func7, Tryz.ntmps7
  go_wp2_with fail
  refine same_mono hneed ?_
  have hne : ((q : Int) == 0) = false := by simpa using hn
  go_wp2_with fail
  refine (rmade_any k0 k1 q rfl hg w h0).mono ?_
  rintro e w' ⟨b, bw, bs, rfl, h3, h4, h5, h6, h7⟩
  go_wp2
  go_ret
  exact ⟨b, bw, bs, rfl, h3, h4, h5, h6, h7⟩
end Go.Proofs.YthlghokgknkpaaaGreatDoor

/-
  What a region that only reads four words keeps.
-/
namespace Go.Proofs.YthlghokgknkpaaaGreatDoor
open Go.RowKit

theorem wd_le {x : Int} (h : 0 ≤ x ∧ x ≤ 18446744073709551615) : Wd x := ⟨h.1, by omega⟩

/-- What a region that only reads the four words keeps: they, and what was there ahead of the call. -/
theorem keep4 {w w1 w2 : World} {B : Nat} {a b c d : Int} (hb : Below w1.heap.size w1 w2)
    (h : w1.cell? ⟨B, 0, none⟩ = some (.int .u64 a) ∧ w1.cell? ⟨B, 1, none⟩ = some (.int .u64 b) ∧ w1.cell? ⟨B, 2, none⟩ = some (.int .u64 c) ∧ w1.cell? ⟨B, 3, none⟩ = some (.int .u64 d) ∧ Vat w1 B ⟨a, b, c, d⟩ ∧ Below w.heap.size w w1) :
    w2.cell? ⟨B, 0, none⟩ = some (.int .u64 a) ∧ w2.cell? ⟨B, 1, none⟩ = some (.int .u64 b) ∧ w2.cell? ⟨B, 2, none⟩ = some (.int .u64 c) ∧ w2.cell? ⟨B, 3, none⟩ = some (.int .u64 d) ∧ Vat w2 B ⟨a, b, c, d⟩ ∧ Below w.heap.size w w2 := by
  obtain ⟨_, _, _, _, hv, hw⟩ := h
  have hv2 := hv.below hb (Nat.le_refl _)
  exact ⟨hv2.c0, hv2.c1, hv2.c2, hv2.c3, hv2, hw.trans (hb.mono hw.size)⟩

theorem hold4 {w W : World} {B : Nat} {v : V4} (hv : Vat W B v) (hw : Below w.heap.size w W) :
    W.drew.cell? ⟨B, 0, none⟩ = some (.int .u64 v.a) ∧ W.drew.cell? ⟨B, 1, none⟩ = some (.int .u64 v.b) ∧ W.drew.cell? ⟨B, 2, none⟩ = some (.int .u64 v.c) ∧ W.drew.cell? ⟨B, 3, none⟩ = some (.int .u64 v.d) ∧ Vat W.drew B v ∧ Below w.heap.size w W.drew := by
  have hv2 : Vat W.drew B v := hv
  exact ⟨hv2.c0, hv2.c1, hv2.c2, hv2.c3, hv2, hw.drew⟩

/-- A variable of four words that has just been laid. -/
theorem vat_new (w : World) (v : V4) (B : Nat) (hB : w.heap.size = B) : Vat (w.alloc (.cells #[.int .u64 v.a, .int .u64 v.b, .int .u64 v.c, .int .u64 v.d] 137)) B v := by
  subst hB
  unfold Vat
  rw [heap_alloc_new]
theorem below3 (w : World) (o o' o'' : Obj) : Below w.heap.size w (((w.alloc o).alloc o').alloc o'') :=
  (((Below.refl _ _).alloc (Nat.le_refl _) o).alloc (by simp) o').alloc (by simp; omega) o''

theorem held_below {w w1 : World} {B : Nat} {a b c d : Int}
    (h : w1.cell? ⟨B, 0, none⟩ = some (.int .u64 a) ∧ w1.cell? ⟨B, 1, none⟩ = some (.int .u64 b) ∧ w1.cell? ⟨B, 2, none⟩ = some (.int .u64 c) ∧ w1.cell? ⟨B, 3, none⟩ = some (.int .u64 d) ∧ Vat w1 B ⟨a, b, c, d⟩ ∧ Below w.heap.size w w1) : Below w.heap.size w w1 := h.2.2.2.2.2
end Go.Proofs.YthlghokgknkpaaaGreatDoor

/-
  Contract of corbelref02.Round.
-/
namespace Go.Proofs.YthlghokgknkpaaaGreatDoor
open Go.RowKit

set_option maxHeartbeats 4000000 in
set_option maxRecDepth 10000 in
theorem rround_any (v : V4) (w : World) :
    Calls Tryz.prog 106 #[v.val] w fun e w' => e = .returned (roundI v).val ∧ Below w.heap.size w w' := by
  obtain ⟨a, b, c, d⟩ := v
  unfold V4.val
  dsimp only
  go_enter Tryz.func106, Tryz.ntmps106
  go_wp2
  apply one_end
  · go_region_with (go_at_call 138; refine (rotl_any _ 13 _ rfl _ (by decide) (by decide)).mono ?_; rintro e w' ⟨rfl, rfl⟩)
    all_goals exact EndAt.mk
  go_wp2_with (go_at_call 138; refine (rotl_any _ 32 _ rfl _ (by decide) (by decide)).mono ?_; rintro e w' ⟨rfl, rfl⟩)
  apply one_end
  · go_region_with (go_at_call 138; refine (rotl_any _ 16 _ rfl _ (by decide) (by decide)).mono ?_; rintro e w' ⟨rfl, rfl⟩)
    all_goals exact EndAt.mk
  go_wp2
  apply one_end
  · go_region_with (go_at_call 138; refine (rotl_any _ 21 _ rfl _ (by decide) (by decide)).mono ?_; rintro e w' ⟨rfl, rfl⟩)
    all_goals exact EndAt.mk
  go_wp2
  apply one_end
  · go_region_with (go_at_call 138; refine (rotl_any _ 17 _ rfl _ (by decide) (by decide)).mono ?_; rintro e w' ⟨rfl, rfl⟩)
    all_goals exact EndAt.mk
  go_wp2_with (go_at_call 138; refine (rotl_any _ 32 _ rfl _ (by decide) (by decide)).mono ?_; rintro e w' ⟨rfl, rfl⟩)
  refine bodyPost_ret (v := (roundI ⟨a, b, c, d⟩).val) (by simp [results, Tryz.results106, go_sem, roundI, V4.val, addI, xorI]) rfl ⟨rfl, ?_⟩
  exact (((Below.refl _ _).alloc (Nat.le_refl _) _).alloc (by simp) _).drew.drew.drew.drew
end Go.Proofs.YthlghokgknkpaaaGreatDoor
