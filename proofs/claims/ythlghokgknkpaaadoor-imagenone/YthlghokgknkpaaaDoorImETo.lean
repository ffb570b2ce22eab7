import Derived.Test.YthlghokgknkpaaaDoorRlTo
import Derived.Test.YthlghokgknkpaaaDoorRnsTo
import Derived.Test.YthlghokgknkpaaaDoorWkGTo
import Derived.Shelf.SlSortCmp.NoneTotal
import Derived.Shelf.Lay
import Derived.Ground.SlsfProg
/-
  Contracts: the calls of a Map[string] that no call made.
-/
namespace Go.Proofs.YthlghokgknkpaaaDoor
open Go.RowKit Go.Shelf

/-- A map that no call made, in whatever memory behind w. -/
def NoMap_s (w : World) (p : Value) : Prop := ∀ X, Below w.heap.size w X → Calls Tryd.prog 21 #[p] X fun e w' => e = .returned (.bool false) ∧ w' = X

theorem noMap_nil_s (w : World) : NoMap_s w (.pointer none) := fun X _ => made_nil_s X
theorem noMap_zero_s (w : World) (b : Nat) (hb : b < w.heap.size) (h : w.cell? ⟨b, 2, none⟩ = some (.slice none 0 0)) : NoMap_s w (.pointer (some ⟨b, 0, none⟩)) := fun X hX =>
  made_any_s b 0 0 none X ((hX.cell (p := ⟨b, 2, none⟩) hb).trans h)
theorem NoMap_s.below {w w' : World} {p : Value} (h : NoMap_s w p) (hb : Below w.heap.size w w') : NoMap_s w' p := fun X hX => h X (hb.trans (hX.mono hb.size))

set_option maxHeartbeats 1000000 in
theorem find_none_s (a : Option Addr) (key : ByteArray) (w : World) (h : NoMap_s w (.pointer a)) : Calls Tryd.prog 22 #[.pointer a, .string key] w fun e w' => e = .returned (.int .i64 (-1)) ∧ Below w.heap.size w w' := by
  refine (callsIn_wide (n := 9)).1 ?_
  refine callsIn_of_wp_marks Tryd.func22 rfl trivial ?_ rfl
  simp only [Tryd.ntmps22, List.size_toArray, List.length_cons, List.length_nil, Nat.reduceAdd, Nat.reduceSub, Array.replicate_succ, Array.replicate_zero, List.push_toArray, List.append_toArray, List.nil_append, List.cons_append]
  have q0 := Boxed.new w 28 (.pointer a)
  replace q0 := q0.alloc (.cells #[.string key] 9)
  have hBq : Below w.heap.size w ((w.alloc (.cells #[.pointer a] 28)).alloc (.cells #[.string key] 9)) := ((Below.refl _ w).alloc (Nat.le_refl _) _).alloc (by simp) _
  have hmade := h _ hBq
  generalize hX0 : (w.alloc (.cells #[.pointer a] 28)).alloc (.cells #[.string key] 9) = X0 at q0 hBq hmade
  have e0 := q0.cell
  gi_wp2
  refine scope_wide ?_
  gi_wp2_with (refine ⟨trivial, ?_⟩; gi_at_call 21; refine (callsIn_wide.2 hmade).mono ?_; rintro e w' ⟨rfl, rfl⟩)
  rw [Exit.noGoto_ret]
  exact ⟨_, results_tmp rfl _ _ _, rfl, hBq⟩

theorem put_none_s (a : Option Addr) (key : ByteArray) (v : Value) (w : World) (h : NoMap_s w (.pointer a)) : Calls Tryd.prog 9 #[.pointer a, .string key, v] w fun e w' => e = .returned (.tuple #[.bool false, .int .i64 1]) ∧ w' = w := by
  have hmade := h w (Below.refl _ _)
  go_enter Tryd.func9, Tryd.ntmps9
  go_wp2_with (go_at_call 21; refine hmade.mono ?_; rintro e w ⟨rfl, rfl⟩)
  go_ret2
  exact ⟨rfl, rfl⟩

theorem get_none_s (a : Option Addr) (key : ByteArray) (w : World) (h : NoMap_s w (.pointer a)) : Calls Tryd.prog 11 #[.pointer a, .string key] w fun e w' => e = .returned (.tuple #[(.string ⟨#[]⟩), .bool false]) ∧ Below w.heap.size w w' := by
  have hf := find_none_s a key w h
  go_enter Tryd.func11, Tryd.ntmps11
  go_wp2_with fail
  refine hf.mono ?_
  rintro e w1 ⟨rfl, hb⟩
  go_wp2
  go_ret2
  exact ⟨rfl, hb⟩

theorem len_none_s (a : Option Addr) (w : World) (h : NoMap_s w (.pointer a)) : Calls Tryd.prog 12 #[.pointer a] w fun e w' => e = .returned (.int .i64 0) ∧ w' = w := by
  have hmade := h w (Below.refl _ _)
  go_enter Tryd.func12, Tryd.ntmps12
  go_wp2_with (go_at_call 21; refine hmade.mono ?_; rintro e w ⟨rfl, rfl⟩)
  go_ret
  exact ⟨rfl, rfl⟩

theorem copy_none_s (a : Option Addr) (w : World) (h : NoMap_s w (.pointer a)) : Calls Tryd.prog 20 #[.pointer a] w fun e w' => e = .returned (.pointer none) ∧ w' = w := by
  have hmade := h w (Below.refl _ _)
  go_enter Tryd.func20, Tryd.ntmps20
  go_wp2_with (go_at_call 21; refine hmade.mono ?_; rintro e w ⟨rfl, rfl⟩)
  go_ret
  exact ⟨rfl, rfl⟩

set_option maxHeartbeats 1000000 in
theorem keys_none_s (a : Option Addr) (w : World) (h : NoMap_s w (.pointer a)) : Calls Tryd.prog 66 #[.pointer a] w fun e w' => e = .returned (.slice none 0 0) ∧ Below w.heap.size w w' := by
  refine (callsIn_wide (n := 9)).1 ?_
  refine callsIn_of_wp_marks Tryd.func66 rfl trivial ?_ rfl
  simp only [Tryd.ntmps66, List.size_toArray, List.length_cons, List.length_nil, Nat.reduceAdd, Nat.reduceSub, Array.replicate_succ, Array.replicate_zero, List.push_toArray, List.append_toArray, List.nil_append, List.cons_append]
  have q0 := Boxed.new w 28 (.pointer a)
  have hBq : Below w.heap.size w (w.alloc (.cells #[.pointer a] 28)) := (Below.refl _ w).alloc (Nat.le_refl _) _
  have hmade := h _ hBq
  generalize hX0 : w.alloc (.cells #[.pointer a] 28) = X0 at q0 hBq hmade
  have e0 := q0.cell
  gi_wp2_with (refine ⟨trivial, ?_⟩; gi_at_call 21; refine (callsIn_wide.2 hmade).mono ?_; rintro e w' ⟨rfl, rfl⟩)
  exact ⟨_, results_tmp rfl _ _ _, rfl, hBq⟩
end Go.Proofs.YthlghokgknkpaaaDoor

/-
  walk.All[string]'s function as an iterator that leans on the map's blocks and its own box alone; the same over no map.
-/
namespace Go.Proofs.YthlghokgknkpaaaDoor
open Go.RowKit Go.Shelf

theorem Lies.keepS {S : Nat → Prop} {tM tS : TypeId} {X Y : World} {b bw bs : Nat} {M : SM} (h : Lies tM tS X b bw bs M) (hk : KeepS S X Y) (h1 : S b) (h2 : S bw) (h3 : S bs) : Lies tM tS Y b bw bs M := h.same (hk.same b h1) (hk.same bw h2) (hk.same bs h3)
theorem Tab.keepS {S : Nat → Prop} {X Y : World} (h : Tab X) (hk : KeepS S X Y) (h0 : S 0) : Tab Y := ⟨Nat.lt_of_lt_of_le h.1 hk.size, fun i hi => (World.cell?_of_block (a := ⟨0, i, none⟩) (hk.same 0 h0)).trans (h.2 i hi)⟩
theorem But.keepS {S : Nat → Prop} {L : List Nat} {X Y : World} (h : But L X Y) (hS : ∀ k, S k → k ∉ L ∧ k < X.heap.size) : KeepS S X Y := ⟨h.size, fun k hk => h.block k (hS k hk).2 (hS k hk).1⟩
/-- The blocks on which an iterator over a map leans. -/
def mapS (b bw bs Bm : Nat) (k : Nat) : Prop := k = 0 ∨ k = b ∨ k = bw ∨ k = bs ∨ k = Bm

set_option maxRecDepth 100000 in
set_option maxHeartbeats 4000000 in
theorem all1_seqS (b bw bs Bm : Nat) (M : SM) (w : World) (hT : Tab w) (h : Lies 60 56 w b bw bs M) (hI : M.Inv IsV_s) (hm : Boxed w Bm 28 (.pointer (some ⟨b, 0, none⟩))) :
    SeqS Tryd.prog 47 #[] #[.pointer (some ⟨Bm, 0, none⟩)] (fun x : ByteArray × ByteArray => #[.string x.1, .string x.2]) (mapS b bw bs Bm) M.pairs w := by
  intro l J Jx W hK hJ hJx hY h0
  have hN : mapS b bw bs Bm 0 ∧ mapS b bw bs Bm b ∧ mapS b bw bs Bm bw ∧ mapS b bw bs Bm bs ∧ mapS b bw bs Bm Bm := by simp [mapS]
  have hW := h.keepS hK hN.2.1 hN.2.2.1 hN.2.2.2.1
  have hTW := hT.keepS hK hN.1
  have hWz := hK.size
  have hSw : ∀ k, mapS b bw bs Bm k → k < W.heap.size := fun k hk => by
    have l1 := h.lt
    have l2 := hm.lt
    have l3 := hT.1
    unfold mapS at hk
    omega
  have hw0 := hSw 0 hN.1
  have c0 := (hK.box hm hN.2.2.2.2).cell
  have hks : ∀ k ∈ M.keys, k.size < 140737488355328 := fun k hk => keys_size hI hk
  refine (callsIn_wide (n := 3)).1 ?_
  refine callsIn_of_wp Tryd.func47 rfl trivial ?_ rfl
  simp only [Tryd.ntmps47, List.size_toArray, List.length_cons, List.length_nil, Nat.reduceAdd, Nat.reduceSub, Array.replicate_succ, Array.replicate_zero, List.push_toArray, List.append_toArray, List.nil_append, List.cons_append]
  gi_wp2_with (refine ⟨trivial, ?_⟩; gi_at_call 48; refine (callsIn_wide.2 (wnewG_any_s b bw bs M _ hTW hW hI)).mono ?_; rintro e X ⟨x, rfl, hx, hx1, hx2, hX⟩)
  have hXz := hX.size
  have hJ0 := h0 X hX
  have hkX : KeepS (mapS b bw bs Bm) W X := KeepS.of_below hX hSw
  gi_loopw [] (fun wr => ∃ j : Nat, j ≤ M.keys.length ∧ X.heap.size ≤ wr.heap.size ∧ KeepS (mapS b bw bs Bm) W wr ∧ WkG (fun g => W.heap.size ≤ g ∧ g < X.heap.size) 106 wr x (.pointer (some ⟨b, 0, none⟩)) (M.keys.drop j) ∧ J X.heap.size (M.pairs.take j) wr) (fun wr => aheadN x wr)
  case atStart => exact ⟨0, Nat.zero_le _, Nat.le_refl _, hkX, hx, hJ0⟩
  case round =>
    obtain ⟨j, hj, hz, hkp, hwk, hJj⟩ := hrel
    clear hx hJ0 hkX
    have hmz := aheadN_is hwk.wk
    have hnx := wnextG_any_s _ x b bw bs M (M.keys.drop j) wr (hTW.keepS hkp hN.1) (hW.keepS hkp hN.2.1 hN.2.2.1 hN.2.2.2.1) hI (fun k hk => hks k (List.mem_of_mem_drop hk)) (by omega) hwk
    clear hwk
    by_cases hjl : j < M.keys.length
    · have hsk : M.skip (M.keys.drop j) = M.keys.getD j ByteArray.empty :: M.keys.drop (j + 1) := by
        rw [drop_cons hjl]
        exact skip_all hI (getD_mem hjl)
      have hpt := pairs_take hjl
      rw [show M.nk (M.keys.drop j) = M.keys.getD j ByteArray.empty by unfold SM.nk; rw [hsk]; rfl, show M.nv (M.keys.drop j) = valK M (M.keys.getD j ByteArray.empty) by unfold SM.nv; rw [hsk], show M.nb (M.keys.drop j) = true by unfold SM.nb; rw [hsk], hsk, List.tail_cons] at hnx
      clear hsk
      generalize M.keys.getD j ByteArray.empty = k at *
      generalize valK M k = v at *
      have hpre : M.pairs.take j ++ [(k, v)] <+: M.pairs := by rw [hpt]; exact List.take_prefix _ _
      gi_wp2_with (refine ⟨trivial, ?_⟩; gi_at_call 49; refine (callsIn_wide.2 hnx).mono ?_; rintro e Y ⟨rfl, hwY, hbY⟩; obtain ⟨fn, tmps, assign, body, hy, hR⟩ := YieldAt.wide (m' := 2) (hY X.heap.size (M.pairs.take j) (k, v) Y hXz (Nat.le_trans hz hbY.size) hpre (hJ _ _ wr Y hXz hJj (hbY.toOutside hx1 hx2))); dsimp only at hy)
      refine hR.mono ?_
      clear hR hy
      rintro e Z ⟨bb, rfl, hk1, hk2, hb⟩
      have hzY := hbY.size
      have hzZ := hk2.size
      have hkZ : KeepS (mapS b bw bs Bm) W Z := (hkp.trans (hbY.keepS fun k hk => ⟨by have := hSw k hk; simp; omega, by have := hSw k hk; omega⟩)).trans hk1
      have hwZ := hwY.keeps hk2 ⟨hx1, hx2⟩
      have hmZ := aheadN_is hwZ.wk
      rw [hpt] at hb
      cases bb with
      | true =>
        rw [if_pos rfl] at hb
        gi_wp2
        go_roundw
        case rel => exact ⟨j + 1, by omega, by omega, hkZ, hwZ, hb⟩
        case measure =>
          rw [hmZ, hmz, List.length_drop, List.length_drop]
          omega
      | false =>
        rw [if_neg (by simp)] at hb
        gi_wp2
        refine bodyPost_ret (results_none rfl _ _ _) rfl ?_
        exact ⟨⟨_, rfl⟩, X.heap.size, hXz, .inr ⟨_, List.take_prefix _ _, hb⟩⟩
    · obtain rfl : j = M.keys.length := by omega
      have hsk : M.skip (M.keys.drop M.keys.length) = [] := by rw [List.drop_eq_nil_of_le (Nat.le_refl _)]; rfl
      have hpt : M.pairs.take M.keys.length = M.pairs := List.take_of_length_le (by unfold SM.pairs; simp)
      rw [show M.nk (M.keys.drop M.keys.length) = ⟨#[]⟩ by unfold SM.nk; rw [hsk]; rfl, show M.nv (M.keys.drop M.keys.length) = ⟨#[]⟩ by unfold SM.nv; rw [hsk], show M.nb (M.keys.drop M.keys.length) = false by unfold SM.nb; rw [hsk]] at hnx
      rw [hpt] at hJj
      clear hsk hpt
      gi_wp2_with (refine ⟨trivial, ?_⟩; gi_at_call 49; refine (callsIn_wide.2 hnx).mono ?_; rintro e Y ⟨rfl, hwY, hbY⟩)
      refine ⟨(fun _ h => by cases h), ?_⟩
      gi_wp2
      refine bodyPost_ret (results_none rfl _ _ _) rfl ?_
      exact ⟨⟨_, rfl⟩, X.heap.size, hXz, .inl (hJ _ _ wr Y hXz hJj (hbY.toOutside hx1 hx2))⟩

theorem left_nil_s (w : World) : Calls Tryd.prog 67 #[.pointer none] w fun e w' => e = .returned (.int .i64 0) ∧ w' = w := by
  go_enter Tryd.func67, Tryd.ntmps67
  go_wp2
  go_ret
  exact ⟨rfl, rfl⟩
theorem left_end_s (x : Nat) (m : Value) (w : World) (h : Wk 106 w x m []) : Calls Tryd.prog 67 #[.pointer (some ⟨x, 0, none⟩)] w fun e w' => e = .returned (.int .i64 0) ∧ w' = w := by
  obtain ⟨v, c0, c1, f1, ⟨p, c, rfl, h1, h2, h3⟩, _⟩ := h.cells
  clear h3
  go_enter Tryd.func67, Tryd.ntmps67
  go_wp2
  go_ret
  exact ⟨rfl, rfl⟩
/-- A walk that has nothing ahead. -/
def NoWalkS (w : World) (a : Option Addr) : Prop := ∀ X, Below w.heap.size w X → Calls Tryd.prog 67 #[.pointer a] X fun e w' => e = .returned (.int .i64 0) ∧ w' = X
theorem noWalkS_nil (w : World) : NoWalkS w none := fun X _ => left_nil_s X
theorem noWalkS_end {w : World} {x : Nat} {m : Value} (h : Wk 106 w x m []) : NoWalkS w (some ⟨x, 0, none⟩) := fun X hX => left_end_s x m X (h.below hX)
set_option maxHeartbeats 1000000 in
theorem next_none_s (a : Option Addr) (w : World) (h : NoWalkS w a) : Calls Tryd.prog 49 #[.pointer a] w fun e w' => e = .returned (.tuple #[.string ⟨#[]⟩, .string ⟨#[]⟩, .bool false]) ∧ w' = w := by
  have hl := h w (Below.refl _ _)
  go_enter Tryd.func49, Tryd.ntmps49
  go_wp2
  go_loopw [3] (fun v wr => v = .string ⟨#[]⟩ ∧ wr = w) (fun _ _ => 0)
  case atStart => exact ⟨rfl, rfl⟩
  case round =>
    obtain ⟨rfl, rfl⟩ := hrel
    go_wp2_with fail
    refine same_mono hl ?_
    go_wp2
    go_ret3
    exact ⟨rfl, rfl⟩
theorem wnew_none_s (w : World) : Calls Tryd.prog 48 #[.pointer none] w fun e w' => ∃ x, e = .returned (.pointer (some ⟨x, 0, none⟩)) ∧ Wk 106 w' x (.pointer none) [] ∧ w.heap.size ≤ x ∧ x < w'.heap.size ∧ Below w.heap.size w w' := by
  have hk := keys_none_s none w (noMap_nil_s w)
  go_enter Tryd.func48, Tryd.ntmps48
  go_wp2_with fail
  refine hk.mono ?_
  rintro e w1 ⟨rfl, hb⟩
  have hw := wk_new w1 (.pointer none) (.slice none 0 0) 106 [] (RowT.nil0 _)
  clear hk
  go_wp2
  go_ret
  exact ⟨_, rfl, hw, hb.size, by simp, hb.alloc hb.size _⟩
set_option maxRecDepth 100000 in
set_option maxHeartbeats 2000000 in
/-- The function that All makes over no map: it tells nothing. -/
theorem all1_none_s (B0 : Nat) (w : World) (hb : Boxed w B0 28 (.pointer none)) :
    SeqS Tryd.prog 47 #[] #[.pointer (some ⟨B0, 0, none⟩)] (fun x : ByteArray × ByteArray => #[.string x.1, .string x.2]) (fun k => k = B0) [] w := by
  intro l J Jx W hK hJ hJx hY h0
  have c0 := (hK.box hb rfl).cell
  refine (callsIn_wide (n := 3)).1 ?_
  refine callsIn_of_wp Tryd.func47 rfl trivial ?_ rfl
  simp only [Tryd.ntmps47, List.size_toArray, List.length_cons, List.length_nil, Nat.reduceAdd, Nat.reduceSub, Array.replicate_succ, Array.replicate_zero, List.push_toArray, List.append_toArray, List.nil_append, List.cons_append]
  gi_wp2_with (refine ⟨trivial, ?_⟩; gi_at_call 48; refine (callsIn_wide.2 (wnew_none_s _)).mono ?_; rintro e X ⟨x, rfl, hx, hx1, hx2, hX⟩)
  have hnx := next_none_s _ X (noWalkS_end hx)
  gi_loopw [] (fun wr => wr = X) (fun _ => 0)
  case atStart => exact rfl
  case round =>
    obtain rfl := hrel
    gi_wp2_with (refine ⟨trivial, ?_⟩; gi_at_call 49; refine (callsIn_wide.2 hnx).mono ?_; rintro e Y ⟨rfl, rfl⟩)
    refine ⟨(fun _ h => by cases h), ?_⟩
    gi_wp2
    refine bodyPost_ret (results_none rfl _ _ _) rfl ?_
    exact ⟨⟨_, rfl⟩, _, by have := hX.size; omega, .inl (h0 _ hX)⟩

end Go.Proofs.YthlghokgknkpaaaDoor

/-
  Contracts: slices.SortFunc of pairs by keys; image.Pairs of whatever an iterator tells.
-/
namespace Go.Proofs.YthlghokgknkpaaaDoor
open Go.RowKit Go.Shelf

shelf_lay_g SlLaysF0.n6 Slsf 6 at Tryd 26 as sortL

/-- How two pairs are compared. -/
def cfP (x y : ByteArray × ByteArray) : Int := cmpT x.1 y.1
theorem ltP (x y : ByteArray × ByteArray) : ltOf cfP x y = ltT x.1 y.1 := cmpT_neg _ _
theorem swoP : Sort.SWO (ltOf cfP) where
  irrefl x := by rw [ltP]; exact ltT_irrefl _
  trans x y z h1 h2 := by rw [ltP] at *; exact ltT_trans h1 h2
  ntrans x y z h1 h2 := by rw [ltP] at *; exact ltT_not_trans h1 h2

set_option maxHeartbeats 1000000 in
theorem pairs1_any (x y : ByteArray × ByteArray) (W : World) : Calls Tryd.prog 27 #[.agg #[.string x.1, .string x.2], .agg #[.string y.1, .string y.2]] W fun e w' => e = .returned (.int .i64 (cfP x y)) ∧ ∃ q os', w' = Sort.grow (W.drewN q) os' := by
  unfold cfP
  go_enter Tryd.func27, Tryd.ntmps27
  go_wp2_with (go_at_call 28; refine same_mono (compare_any _ _ _) ?_)
  go_ret
  exact ⟨rfl, 0, _, by rw [Sort.alloc_eq_grow, Sort.alloc_eq_grow, Sort.grow_grow]; rfl⟩
theorem cmpLaysP (blk off size : Nat) (w : World) : CmpLays Tryd.prog 27 #[] encP 2 cfP blk off size w := fun _ _ _ _ x y => pairs1_any x y _

theorem flat_pairs (d : Array (ByteArray × ByteArray)) : Sort.flatK encP 2 d = (pairsV d.toList).toArray := by
  refine Sort.ext_get! (by simp [pairsV_length]) fun t ht => ?_
  have ht' : t < d.size * 2 := by simpa using ht
  rw [Sort.get_flatK _ _ _ _ ht']
  have hi : t / 2 < d.toList.length := by simp; omega
  have e0 : d[t / 2]! = d.toList.getD (t / 2) default := by
    rw [getElem!_pos d (t / 2) (by simpa using hi), pgetD hi]
    simp
  rw [e0]
  rcases Nat.mod_two_eq_zero_or_one t with h | h
  · have e : t = t / 2 * 2 := by omega
    have hk := pairsV_key hi
    rw [← e] at hk
    rw [h]
    simp [hk, encP]
  · have e : t = t / 2 * 2 + 1 := by omega
    have hk := pairsV_val hi
    rw [← e] at hk
    rw [h]
    simp [hk, encP]
theorem put_take (F c : Array Value) (h : F.size ≤ c.size) : (Sort.putCells id 0 F c).toList.take F.size = F.toList := by
  apply List.ext_getElem?
  intro k
  by_cases hk : k < F.size
  · rw [List.getElem?_take, if_pos hk]
    simp [Sort.putCells, show k < c.size by omega, hk]
  · rw [List.getElem?_take, if_neg hk]
    simp; omega
theorem put_size (F c : Array Value) : (Sort.putCells id 0 F c).size = c.size := by simp [Sort.putCells]

set_option maxHeartbeats 1000000 in
theorem sort_any (B : Nat) (v : Value) (l : List (ByteArray × ByteArray)) (w : World) (h : OwnsP w B v l) (hl : l.length ≤ 1099511627776) :
    Calls Tryd.prog 26 #[v, .func (.func 27) #[] #[]] w fun e w' => e = .returned (.tuple #[]) ∧ ∃ l', l'.Perm l ∧ l'.Pairwise (fun x y => ltT y.1 x.1 = false) ∧ OwnsP w' B v l' ∧ w.grownBy w' v.ownBlock := by
  have hnone : ∀ p c, l = [] → v = .slice p 0 c → Calls Tryd.prog 26 #[v, .func (.func 27) #[] #[]] w fun e w' => e = .returned (.tuple #[]) ∧ ∃ l', l'.Perm l ∧ l'.Pairwise (fun x y => ltT y.1 x.1 = false) ∧ OwnsP w' B v l' ∧ w.grownBy w' v.ownBlock := by
    intro p c h0 hv
    have hc := AnyF.slices_SortFunc_none sortL p c (.func (.func 27) #[] #[]) w
    change Calls Tryd.prog 26 _ _ _ at hc
    subst hv
    refine hc.mono ?_
    rintro e w' ⟨rfl, rfl⟩
    exact ⟨rfl, l, List.Perm.refl _, by rw [h0]; exact List.Pairwise.nil, h, ⟨rfl, rfl, rfl, Nat.le_refl _, fun _ _ _ => rfl⟩⟩
  rcases h.2 with ⟨hv, hn⟩ | ⟨g, cap, cur, hv, hB, hg, hnc, hcm, hcs, htake⟩
  · exact hnone _ _ (List.eq_nil_of_length_eq_zero hn) hv
  · by_cases h0 : l.length = 0
    · exact hnone _ _ (List.eq_nil_of_length_eq_zero h0) (by rw [hv, h0])
    · have hlt : g < w.heap.size := (Array.getElem?_eq_some_iff.1 hg).1
      have hH : Sort.HoldsK encP 2 w g 0 l.toArray := by
        unfold Sort.HoldsK
        rw [flat_pairs]
        intro j hj
        have hj' : j < (pairsV l).length := by simpa using hj
        rw [hv] at h
        have hc := World.ownsRow.cells h (g := g) rfl j (pairsV l)[j] (List.getElem?_eq_getElem hj')
        rw [Addr.add_lit] at hc
        refine ⟨?_, by simp [World.frozen?, hg]⟩
        rw [hc, getElem!_pos _ j hj]
        simp
      have eg : ∀ args w, (callFunc 27 args).run Tryd.prog w = .ok (.enter 27 args) w := enters_of Tryd.func27 (by kernel_rfl) rfl
      have hc := AnyQ.slices_SortFunc sortL 2 Tryd.isAgg33 Tryd.sizeOf33 encP (fun _ => rfl) (fun x v hv => by simp [encP] at hv; rcases hv with rfl | rfl <;> rfl) cfP swoP 27 #[] g 0 cap l.toArray w eg (cmpLaysP g 0 _ w) hH hlt (by simp; omega)
      change Calls Tryd.prog 26 _ _ _ at hc
      rw [List.size_toArray] at hc
      rw [hv]
      refine hc.mono ?_
      rintro e w' ⟨rfl, d', n, os, ⟨hsz, _, hperm⟩, hs, rfl⟩
      have hsz' : d'.size = l.length := by simpa using hsz
      clear hsz
      have e1 : d'.extract 0 l.length = d' := by rw [← hsz']; exact Array.extract_size
      have e2 : l.toArray.extract 0 l.length = l.toArray := by simp
      rw [e1, e2] at hperm
      have hlen : d'.toList.length = l.length := by simpa using hsz'
      have hput : (sortWorldK encP 2 w g 0 n d' os).heap[g]? = some (.cells (Sort.putCells id 0 (pairsV d'.toList).toArray cur) 33 (0, 0)) := by
        unfold sortWorldK Sort.putRowK Sort.putRow
        rw [flat_pairs, Sort.heap_grow_old _ _ (by simp [Sort.mapBlock, Sort.ahead, hlt])]
        simp [Sort.mapBlock, Sort.ahead, Array.getElem?_modify, hg, Sort.onCells]
      refine ⟨rfl, d'.toList, by simpa using hperm, ?_, ?_, ?_⟩
      · rw [List.pairwise_iff_getElem]
        intro i j hi hj hij
        have hi' : i < d'.size := by simpa using hi
        have hj' : j < d'.size := by simpa using hj
        have := hs i j (Nat.zero_le _) hij (by omega)
        rw [getElem!_pos d' j hj', getElem!_pos d' i hi', ltP] at this
        simpa using this
      · refine ⟨by rw [pairsV_length], .inr ⟨g, cap, _, by rw [hlen], hB, hput, by omega, hcm, by rw [put_size]; exact hcs, ?_⟩⟩
        have hF : (pairsV d'.toList).toArray.size = d'.toList.length * 2 := by simp [pairsV_length]
        have := put_take (pairsV d'.toList).toArray cur (by rw [hF, hcs, hlen]; omega)
        rw [hF] at this
        rw [this]
      · refine ⟨rfl, rfl, rfl, size_sortWorldK_c _ _ _ _ _ _ _ _, fun k hk hne => ?_⟩
        have hne' : ¬ g = k := fun e => hne (by rw [e]; rfl)
        unfold sortWorldK Sort.putRowK Sort.putRow
        rw [Sort.heap_grow_old _ _ (by simp [Sort.mapBlock, Sort.ahead, hk])]
        simp [Sort.mapBlock, Sort.ahead, Array.getElem?_modify, hne']
end Go.Proofs.YthlghokgknkpaaaDoor
