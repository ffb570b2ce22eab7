import Derived.Test.YthlghokgknkpaaaGreatDoorRM2To
import Derived.Test.YthlghokgknkpaaaGreatDoorSwMpTo
import Derived.Test.YthlghokgknkpaaaGreatDoorImFTo
import Derived.Test.YthlghokgknkpaaaGreatDoorSwB3To
/-
  Contracts: corbelref05's Get, Keys.
-/
namespace Go.Proofs.YthlghokgknkpaaaGreatDoor
open Go.RowKit Go.Shelf

set_option maxHeartbeats 1000000 in
theorem rget_map (b bw bs : Nat) (M : SM) (key : ByteArray) (w : World) (h : Lies 63 76 w b bw bs M) (hF : M.Fit) (hV : M.Typed IsV_s) (hk : key.size < 140737488355328) :
    Calls Tryz.prog 46 #[.pointer (some ⟨b, 0, none⟩), .string key] w fun e w' => e = .returned (.tuple #[(M.get key (.string ⟨#[]⟩)).1, .bool (M.get key (.string ⟨#[]⟩)).2]) ∧ Below w.heap.size w w' := by
  have hfind := rfind_any b bw bs M key w h hF hk
  unfold SM.get
  cases hfd : M.find key with
  | some p =>
    obtain ⟨hp1, _, _, _⟩ := find_some hF hfd
    obtain ⟨x, hx⟩ := hV p hp1
    rw [hfd] at hfind
    simp only
    rw [hx]
    clear hfd
    go_enter Tryz.func46, Tryz.ntmps46
    go_wp2_with fail
    refine hfind.mono ?_
    rintro e w1 ⟨rfl, hb⟩
    have hl := h.below hb (Nat.le_refl _)
    obtain ⟨dw, ds, _, _, _, k3, _, _, _, hds⟩ := hl.cells
    have kv := hl.val p hp1
    rw [hx] at kv
    have hp2 : (p : Int) < M.ss.length := by omega
    have hp3 : ¬ (p : Int) < 0 := by omega
    clear hx hfind
    go_wp2
    go_ret2
    exact ⟨rfl, hb⟩
  | none =>
    rw [hfd] at hfind
    simp only
    clear hfd
    go_enter Tryz.func46, Tryz.ntmps46
    go_wp2_with fail
    refine hfind.mono ?_
    rintro e w1 ⟨rfl, hb⟩
    clear hfind
    go_wp2
    go_ret2
    exact ⟨rfl, hb⟩

/-- The keys of the first slots. -/
def SM.upto (M : SM) (j : Nat) : List ByteArray := ((List.range j).filter fun p => decide (byteN (M.w (p / 8)) (p % 8) < 128)).map fun p => (M.s p).1
theorem upto_full (M : SM) : M.upto (8 * M.ws.length) = M.keys := rfl
theorem upto_yes {M : SM} {g i : Nat} (hi : i < 8) (h : byteN (M.w g) i < 128) : M.upto (8 * g + i + 1) = M.upto (8 * g + i) ++ [(M.s (8 * g + i)).1] := by
  unfold SM.upto
  rw [List.range_succ, List.filter_append, List.map_append, List.filter_cons_of_pos]
  · rfl
  · rw [show (8 * g + i) / 8 = g by omega, show (8 * g + i) % 8 = i by omega]
    exact decide_eq_true h
theorem upto_no {M : SM} {g i : Nat} (hi : i < 8) (h : ¬ byteN (M.w g) i < 128) : M.upto (8 * g + i + 1) = M.upto (8 * g + i) := by
  unfold SM.upto
  rw [List.range_succ, List.filter_append, List.map_append, List.filter_cons_of_neg]
  · simp
  · rw [show (8 * g + i) / 8 = g by omega, show (8 * g + i) % 8 = i by omega, decide_eq_false h]
    simp
theorem upto_len (M : SM) (j : Nat) : (M.upto j).length ≤ j := by
  unfold SM.upto
  rw [List.length_map]
  exact Nat.le_trans (List.length_filter_le _ _) (by simp)

set_option maxRecDepth 10000 in
set_option maxHeartbeats 2000000 in
theorem rkeys_any (b bw bs : Nat) (M : SM) (w : World) (h : Lies 63 76 w b bw bs M) (hF : M.Fit) :
    Calls Tryz.prog 45 #[.pointer (some ⟨b, 0, none⟩)] w fun e w' => ∃ v, e = .returned v ∧ OwnsT w' w.heap.size v M.keys ∧ Below w.heap.size w w' := by
  obtain ⟨cw, cs, c0, c1, c2, c3, c4, c5, hcw, hcs⟩ := h.cells
  have hr := good_range hF.good
  have hssl := hF.slots
  go_enter Tryz.func45, Tryz.ntmps45
  go_wp2
  go_loopw [10, 3] (fun t v wr => ∃ j : Nat, j ≤ M.ss.length ∧ t = .int .i64 (j : Nat) ∧ OwnsT wr w.heap.size v (M.upto j) ∧ Below w.heap.size w wr) (fun t _ _ => M.ss.length - (intOf t).toNat)
  case atStart => exact ⟨0, by omega, rfl, World.ownsRow_nil _ _ _ _, Below.refl _ _⟩
  case round =>
    obtain ⟨j, hj, rfl, hov, hbr⟩ := hrel
    have hl := h.below hbr (Nat.le_refl _)
    obtain ⟨dw, ds, _, _, k2, k3, _, _, hdw, hds⟩ := hl.cells
    by_cases hlt : j < M.ss.length
    · obtain ⟨g, i, rfl, hi⟩ : ∃ g i, j = 8 * g + i ∧ i < 8 := ⟨j / 8, j % 8, by omega, Nat.mod_lt _ (by decide)⟩
      have hg : g < M.ws.length := by omega
      have kw := hl.word g hg
      have kk := hl.key _ hlt
      have hwl := hF.words g hg
      have hy := fun hb => upto_yes (M := M) (g := g) hi hb
      have hn := fun hb => upto_no (M := M) (g := g) hi hb
      have hll := upto_len M (8 * g + i)
      have h8 : (8 * (g : Int) + i) / 8 = g := by omega
      have hi1 : 8 * (g : Int) + i < M.ss.length := by omega
      generalize (M.s (8 * g + i)).1 = key at *
      generalize M.w g = wd at *
      simp only [Int.natCast_add, Int.natCast_mul, Int.cast_ofNat_Int]
      by_cases hb : byteN wd i < 128
      · have hu : Hid (M.upto (8 * g + i + 1) = M.upto (8 * g + i) ++ [key]) := hy hb
        have hb' : (byteN wd i : Int) < 128 := by omega
        clear hy hn hb
        generalize M.upto (8 * g + i) = us at *
        go_wp2_with fail
        refine same_mono (rget_any wd _ i (by omega) _ hwl) ?_
        go_wp2_with (at_builtin; refine ap_word _ rfl (.tmp 24) (.tmp 33) rfl w.heap.size _ us _ rfl rfl hov (by omega) hbr.size ?_; intro v' w2 hown' hb2)
        go_roundw
        case rel =>
          refine ⟨8 * g + i + 1, by omega, by simp, ?_, hbr.trans hb2⟩
          rw [hu.out]
          exact hown'
        case measure => simp only [intOf]; omega
      · have hu : Hid (M.upto (8 * g + i + 1) = M.upto (8 * g + i)) := hn hb
        have hb' : ¬ (byteN wd i : Int) < 128 := by omega
        clear hy hn hb
        go_wp2_with fail
        refine same_mono (rget_any wd _ i (by omega) _ hwl) ?_
        go_wp2
        go_roundw
        case rel =>
          refine ⟨8 * g + i + 1, by omega, by simp, ?_, hbr⟩
          rw [hu.out]
          exact hov
        case measure => simp only [intOf]; omega
    · obtain rfl : j = M.ss.length := by omega
      rw [hssl, upto_full] at hov
      go_wp2
      go_ret
      exact ⟨_, rfl, hov, hbr⟩
end Go.Proofs.YthlghokgknkpaaaGreatDoor

/-
  Contract: corbelref07.Pairs (the document's pairs by keys).
-/
namespace Go.Proofs.YthlghokgknkpaaaGreatDoor
open Go.RowKit Go.Shelf Go.Lib

theorem pairsV_set : ∀ (l : List (ByteArray × ByteArray)) (i : Nat) (x : ByteArray × ByteArray), ((pairsV l).set (i * 2) (.string x.1)).set (i * 2 + 1) (.string x.2) = pairsV (l.set i x)
  | [], i, x => by simp [pairsV]
  | p :: l, 0, x => rfl
  | p :: l, i + 1, x => by
    rw [pairsV_cons, show (i + 1) * 2 = i * 2 + 1 + 1 by omega, List.set_cons_succ, List.set_cons_succ, List.set_cons_succ, List.set_cons_succ, pairsV_set l i x, List.set_cons_succ, pairsV_cons]
/-- A pair stored into a row. -/
theorem OwnsP.set {w : World} {B g n c : Nat} {l : List (ByteArray × ByteArray)} (h : OwnsP w B (.slice (some ⟨g, 0, none⟩) n c) l) (i : Nat) (x : ByteArray × ByteArray) :
    OwnsP ((w.setCell ⟨g, i * 2, none⟩ (.string x.1)).setCell ⟨g, i * 2 + 1, none⟩ (.string x.2)) B (.slice (some ⟨g, 0, none⟩) n c) (l.set i x) ∧ w.grownBy ((w.setCell ⟨g, i * 2, none⟩ (.string x.1)).setCell ⟨g, i * 2 + 1, none⟩ (.string x.2)) (some g) := by
  have hn : n = l.length := by
    rcases h.2 with ⟨e, _⟩ | ⟨g', cap, cur, e, _⟩
    · cases e
    · simp only [Value.slice.injEq] at e
      exact e.2.1
  subst hn
  obtain ⟨h1, g1⟩ := World.ownsRow.stored h (i * 2) (.string x.1)
  obtain ⟨h2, g2⟩ := World.ownsRow.stored h1 (i * 2 + 1) (.string x.2)
  refine ⟨?_, grown_trans g1 g2⟩
  unfold OwnsP
  rw [List.length_set, ← pairsV_set]
  exact h2
theorem OwnsP.form {w : World} {B : Nat} {v : Value} {l : List (ByteArray × ByteArray)} (h : OwnsP w B v l) (h0 : 0 < l.length) : ∃ g cap, v = .slice (some ⟨g, 0, none⟩) l.length cap ∧ B ≤ g ∧ g < w.heap.size ∧ l.length ≤ cap ∧ (∀ i, i < l.length → w.cell? ⟨g, i * 2, none⟩ = some (.string (l.getD i default).1) ∧ w.cell? ⟨g, i * 2 + 1, none⟩ = some (.string (l.getD i default).2)) ∧ ∀ j, w.frozen? ⟨g, j, none⟩ = false := by
  rcases h.2 with ⟨_, hn⟩ | ⟨g, cap, cur, rfl, hB, hg, hnc, _, _, _⟩
  · omega
  · refine ⟨g, cap, rfl, hB, (Array.getElem?_eq_some_iff.1 hg).1, hnc, fun i hi => ?_, World.ownsRow.frozenAt h⟩
    obtain ⟨b, o, e, _, _, _, k1, k2⟩ := h.has.at (j := i) hi
    cases e
    rw [Nat.zero_add] at k1 k2
    exact ⟨k1, k2⟩
/-- Where a pair is laid in. -/
theorem ins_rise {l : List (ByteArray × ByteArray)} {i : Nat} {x : ByteArray × ByteArray} (hr : Rise l) (h1 : ∀ q ∈ l.take i, ltT q.1 x.1 = true) (h2 : ∀ q ∈ l.drop i, ltT x.1 q.1 = true) : Rise (l.take i ++ [x] ++ l.drop i) := by
  unfold Rise
  rw [List.pairwise_append, List.pairwise_append]
  refine ⟨⟨hr.take i, List.pairwise_singleton _ _, fun a ha b hb => ?_⟩, hr.drop i, fun a ha b hb => ?_⟩
  · rw [List.mem_singleton] at hb; subst hb; exact h1 a ha
  · rcases List.mem_append.1 ha with ha | ha
    · exact ltT_trans (h1 a ha) (h2 b hb)
    · rw [List.mem_singleton] at ha; subst ha; exact h2 b hb
theorem ins_perm (l : List (ByteArray × ByteArray)) (i : Nat) (x : ByteArray × ByteArray) : (l.take i ++ [x] ++ l.drop i).Perm (l ++ [x]) := by
  have : (l.take i ++ [x] ++ l.drop i).Perm (l.take i ++ l.drop i ++ [x]) := by
    rw [List.append_assoc, List.append_assoc]
    exact List.Perm.append_left _ List.perm_append_comm
  rwa [List.take_append_drop] at this
/-- The row while a pair is being laid in. -/
def holeL (l : List (ByteArray × ByteArray)) (i : Nat) (x : ByteArray × ByteArray) : List (ByteArray × ByteArray) := l.take i ++ [x] ++ l.drop i
theorem hole_len {l : List (ByteArray × ByteArray)} {i : Nat} (h : i ≤ l.length) (x : ByteArray × ByteArray) : (holeL l i x).length = l.length + 1 := by simp [holeL]; omega
theorem hole_at {l : List (ByteArray × ByteArray)} {i : Nat} (h : i ≤ l.length) (x : ByteArray × ByteArray) (hi : 1 ≤ i) : (holeL l i x).getD (i - 1) default = l.getD (i - 1) default := by
  unfold holeL
  rw [List.getD_eq_getElem?_getD, List.append_assoc, List.getElem?_append_left (by rw [List.length_take]; omega), List.getElem?_take, if_pos (by omega), ← List.getD_eq_getElem?_getD]
theorem hole_put {l : List (ByteArray × ByteArray)} {i : Nat} (h : i ≤ l.length) (x y : ByteArray × ByteArray) : (holeL l i x).set i y = holeL l i y := by
  unfold holeL
  have hl : (l.take i).length = i := by rw [List.length_take]; omega
  rw [List.append_assoc, List.append_assoc, List.set_append_right _ _ (by omega), hl, Nat.sub_self]
  rfl
theorem hole_step {l : List (ByteArray × ByteArray)} {i : Nat} (h : i ≤ l.length) (hi : 1 ≤ i) : holeL l i (l.getD (i - 1) default) = holeL l (i - 1) (l.getD (i - 1) default) := by
  unfold holeL
  have e1 := ptake_snoc (l := l) (i := i - 1) (by omega)
  rw [show i - 1 + 1 = i by omega] at e1
  have e2 : l.drop (i - 1) = l.getD (i - 1) default :: l.drop i := by
    rw [List.drop_eq_getElem_cons (by omega), pgetD (by omega), show i - 1 + 1 = i by omega]
  rw [← e1, e2]
  simp

set_option maxRecDepth 100000 in
set_option maxHeartbeats 1500000 in
theorem rpairs_any (b bw bs : Nat) (M : SM) (w : World) (h : Lies 63 76 w b bw bs M) (hI : M.Inv IsV_s) :
    Calls Tryz.prog 14 #[.pointer (some ⟨b, 0, none⟩)] w fun e w' => ∃ v, e = .returned v ∧ OwnsP w' w.heap.size v M.img ∧ Below w.heap.size w w' := by
  obtain ⟨i1, hi1, hz1, hs1, hb1⟩ := info_parts infoP
  have hks := rkeys_any b bw bs M w h hI.fit
  have hkl := keys_len hI
  have hr := good_range hI.fit.good
  have hld := hI.load
  have Hnd : Hid ((M.pairs.map Prod.fst).Nodup) := pairs_nodup hI
  have Hpl : Hid (M.pairs.length = M.n) := pairs_len hI
  have Hg : Hid (∀ W, Below w.heap.size w W → ∀ k, k ∈ M.keys → Calls Tryz.prog 46 #[.pointer (some ⟨b, 0, none⟩), .string k] W fun e w' => e = .returned (.tuple #[.string (valK M k), .bool true]) ∧ Below W.heap.size W w') := fun W hW k hk => by
    have := rget_map b bw bs M k W (h.below hW (Nat.le_refl _)) hI.fit hI.typed (keys_size hI hk)
    rw [get_val hI, get_has hI hk] at this
    exact this
  have HI : Hid (M.Inv IsV_s) := hI
  clear h hI
  have hMn : M.n ≤ 8192 := by omega
  clear hr hld
  go_enter Tryz.func14, Tryz.ntmps14
  go_wp2_with fail
  refine hks.mono ?_
  rintro e w1 ⟨kv, rfl, hok, hbk⟩
  have HR : Hid (RowT w1 kv M.keys) := RowT.of_owns hok
  obtain ⟨pk, ck, rfl, -, -, -⟩ := id hok.has
  rw [hkl] at HR ⊢
  clear hok hks
  have Hkl : Hid (M.keys.length = M.n) := hkl
  clear hkl
  go_wp2
  go_loopw [3, 12] (fun s3 s12 wr => ∃ (j : Nat) (v : Value) (l : List (ByteArray × ByteArray)), v = s3 ∧ j ≤ M.n ∧ s12 = .int .i64 (j : Nat) ∧ OwnsP wr w1.heap.size v l ∧ Hid (l.Perm (M.pairs.take j) ∧ Rise l) ∧ Below w1.heap.size w1 wr) (fun _ s12 _ => M.n - (intOf s12).toNat)
  case atStart => exact ⟨0, _, [], rfl, Nat.zero_le _, rfl, OwnsP.nil0 _ _, ⟨by rw [List.take_zero], Rise.nil⟩, Below.refl _ _⟩
  case round =>
    obtain ⟨j, v, l, hv, hj, rfl, ho, hpr, hbr⟩ := hrel
    subst hv
    have hll : l.length = j := by rw [hpr.out.1.length_eq, List.length_take, Hpl.out]; omega
    by_cases hlt : j < M.n
    · obtain ⟨bb, oo, rfl, hcc, hjk, c1⟩ := text_at (HR.out.below hbr).has (Below.refl wr.heap.size wr) (Nat.le_refl _) hlt
      have hbw : Below w.heap.size w wr := hbk.trans (hbr.mono hbk.size)
      have hmem : M.keys.getD j ByteArray.empty ∈ M.keys := getD_mem hjk
      have hget := Hg.out wr hbw _ hmem
      have Hpt : Hid (M.pairs.take j ++ [(M.keys.getD j ByteArray.empty, valK M (M.keys.getD j ByteArray.empty))] = M.pairs.take (j + 1)) := pairs_take hjk
      have Hno : Hid (∀ q ∈ l, q.1 ≠ M.keys.getD j ByteArray.empty) := by
        intro q hq e
        have hq' : q ∈ M.pairs.take j := hpr.out.1.mem_iff.1 hq
        have hn := Hnd.out.sublist ((List.take_sublist (j + 1) M.pairs).map Prod.fst)
        rw [← Hpt.out, List.map_append, List.nodup_append] at hn
        exact hn.2.2 q.1 (List.mem_map.2 ⟨q, hq', rfl⟩) (M.keys.getD j ByteArray.empty) (by simp) e
      clear hmem hjk
      generalize M.keys.getD j ByteArray.empty = k at *
      generalize valK M k = kval at *
      go_wp2_with fail
      refine hget.mono ?_
      rintro e w2 ⟨rfl, hb2⟩
      have ho2 := ho.below hb2 (Nat.le_refl _)
      have hbr2 : Below w1.heap.size w1 w2 := hbr.trans (hb2.mono hbr.size)
      obtain ⟨pv, cv, hvv, -, -, -⟩ := id ho2.has
      rw [hll] at hvv
      subst hvv
      have hz2 := hbr2.size
      have hoA := World.ownsRow.alloc ho2 (.cells #[.string k, .string kval] 35)
      clear hget c1 ho hbr hb2
      go_wp2_with (at_builtin; refine wpList_append_own _ rfl _ _ 25 rfl w1.heap.size 35 i1 (.agg #[.string ⟨#[]⟩, .string ⟨#[]⟩]) 2 32 Tryz.underlying25 hi1 hz1 hs1 hb1 rfl (by decide) (.slice pv j cv) l.length (pairsV l) rfl hoA ⟨w2.heap.size, 0, none⟩ 1 1 [.string k, .string kval] rfl rfl (new_two _ _ _ _) (by simp [Value.oneCell']) (by unfold maxLen; omega) (by omega) (by simp; omega) ?_; intro v5 w5 ho5 hg5 _)
      have ho6 : OwnsP w5 w1.heap.size v5 (holeL l l.length (k, kval)) := by
        unfold OwnsP holeL
        rw [List.take_length, List.drop_length, List.append_nil, List.length_append, List.length_singleton, pairsV_append]
        exact ho5
      have hb5 : Below w1.heap.size w1 w5 := hbr2.trans (((Below.refl w1.heap.size w2).alloc (by omega) _).grown hg5 (by simp; omega) fun k hk => (World.ownsRow.lt ho2 k hk).1)
      obtain ⟨g, cap, hv5, hgB, -, -, -, -⟩ := ho6.form (by rw [hole_len (Nat.le_refl _)]; omega)
      rw [hole_len (Nat.le_refl _), hll] at hv5
      subst hv5
      clear ho5 hg5 hoA ho2 hbr2 hz2
      have Hll : Hid (l.length = j) := hll
      rw [hll] at ho6
      clear hll
      go_loopw [8] (fun s8 wi => ∃ (i : Nat) (y : ByteArray × ByteArray), i ≤ j ∧ s8 = .int .i64 (i : Nat) ∧ OwnsP wi w1.heap.size (.slice (some ⟨g, 0, none⟩) (j + 1) cap) (holeL l i y) ∧ Hid (∀ q ∈ l.drop i, ltT k q.1 = true) ∧ Below w1.heap.size w1 wi) (fun s8 _ => (intOf s8).toNat)
      case atStart => exact ⟨j, _, Nat.le_refl _, rfl, ho6, (fun q hq => by rw [← Hll.out, List.drop_length] at hq; cases hq), hb5⟩
      case round =>
        clear ho6 hb5
        obtain ⟨i, y, hij, rfl, hoi, hup, hbi⟩ := hrel
        have hhl := hole_len (l := l) (i := i) (by rw [Hll.out]; exact hij) y
        rw [Hll.out] at hhl
        obtain ⟨g', cap', e, -, hgl, hcap, hcl, hfr⟩ := hoi.form (by omega)
        rw [hhl] at e hcap hcl
        cases e
        by_cases hi0 : i = 0
        · subst hi0
          obtain ⟨k1, k2⟩ := hcl 0 (by omega)
          rw [Nat.zero_mul] at k1 k2
          have f0 := hfr 0
          have f1 := hfr 1
          clear hcl hfr
          have hset := hoi.set 0 (k, kval)
          rw [hole_put (Nat.zero_le _)] at hset
          simp only [Nat.zero_mul, Nat.zero_add] at hset
          go_wp2
          refine ⟨⟨j + 1, _, holeL l 0 (k, kval), rfl, by omega, by go_num, hset.1, ⟨?_, ?_⟩, hbi.grown hset.2 hbi.size (fun k hk => by cases hk; exact hgB)⟩, by simp only [intOf]; omega⟩
          · rw [← Hpt.out]
            exact (ins_perm l 0 (k, kval)).trans (hpr.out.1.append_right _)
          · exact ins_rise hpr.out.2 (fun q hq => by rw [List.take_zero] at hq; cases hq) hup.out
        · obtain ⟨k1, k2⟩ := hcl i (by omega)
          obtain ⟨k3, k4⟩ := hcl (i - 1) (by omega)
          rw [hole_at (by rw [Hll.out]; exact hij) y (by omega)] at k3 k4
          have f0 := hfr (i * 2)
          have f1 := hfr (i * 2 + 1)
          have Hst := hole_step (l := l) (i := i) (by rw [Hll.out]; exact hij) (by omega)
          have hmem : l.getD (i - 1) default ∈ l := pgetD_mem (by rw [Hll.out]; omega)
          have hne := Hno.out _ hmem
          have Hst' : Hid (holeL l i (l.getD (i - 1) default) = holeL l (i - 1) (l.getD (i - 1) default)) := Hst
          have Hdr : Hid (l.drop (i - 1) = l.getD (i - 1) default :: l.drop i) := by
            show _ = _
            rw [List.drop_eq_getElem_cons (by rw [Hll.out]; omega), pgetD (by rw [Hll.out]; omega), show i - 1 + 1 = i by omega]
          have Htk : Hid (∀ q ∈ l.take i, q = l.getD (i - 1) default ∨ ltT q.1 (l.getD (i - 1) default).1 = true) := fun q hq => by
            have e1 := ptake_snoc (l := l) (i := i - 1) (by rw [Hll.out]; omega)
            rw [show i - 1 + 1 = i by omega] at e1
            have hr2 := hpr.out.2.take i
            rw [← e1] at hq hr2
            rcases List.mem_append.1 hq with hq | hq
            · exact .inr ((List.pairwise_append.1 hr2).2.2 q hq _ (by simp))
            · rw [List.mem_singleton] at hq; exact .inl hq
          have hset1 := hoi.set i (k, kval)
          have hset2 := hoi.set i (l.getD (i - 1) default)
          rw [hole_put (by rw [Hll.out]; exact hij)] at hset1 hset2
          have HS1 : Hid (OwnsP ((wr.setCell ⟨g, i * 2, none⟩ (.string k)).setCell ⟨g, i * 2 + 1, none⟩ (.string kval)) w1.heap.size (.slice (some ⟨g, 0, none⟩) (j + 1) cap) (holeL l i (k, kval)) ∧ wr.grownBy ((wr.setCell ⟨g, i * 2, none⟩ (.string k)).setCell ⟨g, i * 2 + 1, none⟩ (.string kval)) (some g)) := hset1
          clear hcl hfr hmem Hst hset1
          generalize l.getD (i - 1) default = x at *
          obtain ⟨xk, xv⟩ := x
          dsimp only at k3 k4 hne hset2
          have HS2 : Hid (OwnsP ((wr.setCell ⟨g, i * 2, none⟩ (.string xk)).setCell ⟨g, i * 2 + 1, none⟩ (.string xv)) w1.heap.size (.slice (some ⟨g, 0, none⟩) (j + 1) cap) (holeL l i (xk, xv)) ∧ wr.grownBy ((wr.setCell ⟨g, i * 2, none⟩ (.string xk)).setCell ⟨g, i * 2 + 1, none⟩ (.string xv)) (some g)) := hset2
          clear hset2
          have hi1 : (0 : Int) < (i : Int) := by omega
          have hi5 : 0 < i := by omega
          have hi2 : (((i : Int) - 1)).toNat = i - 1 := by omega
          have hi3 : (i : Int) - 1 < ((j + 1 : Nat) : Int) := by omega
          have hi4 : (0 : Int) ≤ (i : Int) - 1 := by omega
          have hi6 : (i : Int) < ((j + 1 : Nat) : Int) := by omega
          have heq : (xk.toList == k.toList) = false := by rw [toList_beq, decide_eq_false hne]
          cases hkx : ltT k xk with
          | true =>
            have hA : Op.bytesLess xk.toList k.toList = false := ltT_asymm hkx
            have Hkx : Hid (ltT k xk = true) := hkx
            clear hkx hoi
            go_wp2
            go_roundw
            case rel =>
              refine ⟨i - 1, (xk, xv), by omega, by rw [show (i : Int) - 1 = ((i - 1 : Nat) : Int) by omega], by rw [← Hst'.out]; exact HS2.out.1, fun q hq => ?_, hbi.grown HS2.out.2 hbi.size (fun k hk => by cases hk; exact hgB)⟩
              rw [Hdr.out] at hq
              rcases List.mem_cons.1 hq with rfl | hq
              · exact Hkx.out
              · exact hup.out q hq
            case measure => simp only [intOf]; omega
          | false =>
            have hA : Op.bytesLess xk.toList k.toList = true := by
              cases hA : ltT xk k with
              | true => exact hA
              | false => exact absurd (ltT_tri hA hkx) hne
            have HA : Hid (ltT xk k = true) := hA
            clear hkx hoi
            go_wp2
            refine ⟨⟨j + 1, _, holeL l i (k, kval), rfl, by omega, by go_num, HS1.out.1, ⟨?_, ?_⟩, hbi.grown HS1.out.2 hbi.size (fun k hk => by cases hk; exact hgB)⟩, by simp only [intOf]; omega⟩
            · rw [← Hpt.out]
              exact (ins_perm l i (k, kval)).trans (hpr.out.1.append_right _)
            · refine ins_rise hpr.out.2 (fun q hq => ?_) hup.out
              rcases Htk.out q hq with rfl | hq'
              · exact HA.out
              · exact ltT_trans hq' HA.out
    · obtain rfl : j = M.n := by omega
      go_wp2
      go_ret
      refine ⟨_, rfl, ?_, hbk.trans (hbr.mono hbk.size)⟩
      have hpp := hpr.out.1
      rw [← Hpl.out, List.take_length] at hpp
      have := srt_is hpr.out.2 hpp
      unfold SM.img
      rw [← this]
      exact ho.mono hbk.size
end Go.Proofs.YthlghokgknkpaaaGreatDoor

/-
  Contracts: corbelref05's Delete.
-/
namespace Go.Proofs.YthlghokgknkpaaaGreatDoor
open Go.RowKit Go.Shelf

set_option maxRecDepth 100000 in
set_option maxHeartbeats 4000000 in
theorem rdelete_any (b bw bs : Nat) (M : SM) (key : ByteArray) (w : World) (h : Lies 63 76 w b bw bs M) (hS : M.Sane IsV_s) (hk : key.size < 140737488355328) :
    Calls Tryz.prog 13 #[.pointer (some ⟨b, 0, none⟩), .string key] w fun e w' => e = .returned (.bool (M.del key (.string ⟨#[]⟩)).1) ∧ Lies 63 76 w' b bw bs (M.del key (.string ⟨#[]⟩)).2 ∧ But [b, bw, bs] w w' := by
  have hF := hS.fit
  have hr := good_range hF.good
  have hfew := hF.few
  have hfind := rfind_any b bw bs M key w h hF hk
  cases hfd : M.find key with
  | none =>
    have hdel : M.del key (.string ⟨#[]⟩) = (false, M) := by unfold SM.del; rw [hfd]
    rw [hdel]
    rw [hfd] at hfind
    clear hfd hdel
    go_enter Tryz.func13, Tryz.ntmps13
    go_wp2_with fail
    refine hfind.mono ?_
    rintro e w1 ⟨rfl, hb⟩
    clear hfind
    go_wp2
    go_ret
    exact ⟨rfl, h.below hb (Nat.le_refl _), But.of_below hb (Nat.le_refl _)⟩
  | some p =>
    obtain ⟨hp1, hp2, hp3, hkey⟩ := find_some hF hfd
    clear hkey
    have hwl := M.what_lt key
    have hn1 : 1 ≤ M.n := hS.some (p / 8) (p % 8) hp2 (Nat.mod_lt _ (by decide)) (by omega)
    obtain ⟨g, i, rfl, hi⟩ : ∃ g i, p = 8 * g + i ∧ i < 8 := ⟨p / 8, p % 8, by omega, Nat.mod_lt _ (by decide)⟩
    have hdel : M.del key (.string ⟨#[]⟩) = (true, { M with ws := M.ws.set g (putN (M.w g) i (if hasE (M.w g) then 128 else 254)), ss := M.ss.set (8 * g + i) (ByteArray.empty, (.string ⟨#[]⟩)), n := M.n - 1, t := if hasE (M.w g) then M.t else M.t + 1 }) := by
      unfold SM.del; rw [hfd]; simp only
      rw [show (8 * g + i) / 8 = g by omega, show (8 * g + i) % 8 = i by omega]
    rw [hdel]
    rw [show (8 * g + i) / 8 = g by omega] at hp2
    rw [hfd] at hfind
    simp only [Int.natCast_add, Int.natCast_mul, Int.cast_ofNat_Int] at hfind
    have hE := hasE_match (M.w g)
    have hwd := hF.words g hp2
    clear hfd hdel hp3
    generalize hwd0 : M.w g = wd at *
    have h8 : (8 * (g : Int) + i) / 8 = g := by omega
    have h9 : (8 * (g : Int) + i) % 8 = i := by omega
    have hs8 := hF.slots
    have hi1 : 8 * (g : Int) + i < M.ss.length := by omega
    have hi0 : 8 * (g : Int) + i ≠ -1 := by omega
    have hi2 : ¬ (8 * (g : Int) + i) < 0 := by omega
    have hm2 := matchN_lt wd 128
    have hwd1 : Hid (M.w g = wd) := hwd0
    by_cases hem : matchN wd 128 = 0
    · have hE' : hasE wd = false := by rw [hE, decide_eq_true hem]; rfl
      clear hE
      simp only [hE', Bool.false_eq_true, if_false]
      clear hE'
      have hd254 : (254 : Nat) < 256 := by decide
      go_enter Tryz.func13, Tryz.ntmps13
      go_wp2_with fail
      refine hfind.mono ?_
      rintro e w1 ⟨rfl, hb⟩
      have hl := h.below hb (Nat.le_refl _)
      obtain ⟨dw, ds, _, _, k2, k3, k4, k5, hdw, hds⟩ := hl.cells
      have kw := hl.word g hp2
      rw [hwd0] at kw
      have f5 := hl.free 5
      have hbut : But [b, bw, bs] w w1 := But.of_below hb (Nat.le_refl _)
      clear hfind hs8 hwd0
      go_wp2_with (go_at_call 43; refine same_mono (rmatch_any wd 128 _ hwd) ?_; rw [hem])
      have L1 := hl.setT (M.t + 1)
      rw [show ((M.t + 1 : Nat) : Int) = (M.t : Int) + 1 by omega] at L1
      replace hbut := hbut.setCell (p := ⟨b, 5, none⟩) (.inl (by simp)) (.int .i64 ((M.t : Int) + 1))
      clear k2 k3 k4 k5 f5 hl kw
      generalize w1.setCell ⟨b, 5, none⟩ (.int .i64 ((M.t : Int) + 1)) = w2 at *
      obtain ⟨M1, hM10⟩ : ∃ M1 : SM, M1 = { M with t := M.t + 1 } := ⟨_, rfl⟩
      have hM1 : M1.w g = wd := by rw [hM10]; exact hwd1.out
      have hM1n : M1.n = M.n := by rw [hM10]
      rw [← hM10] at L1
      have hp1' : 8 * g + i < M1.ss.length := by rw [hM10]; exact hp1
      have hp2' : g < M1.ws.length := by rw [hM10]; exact hp2
      obtain ⟨w1', s1', _, _, m2, m3, m4, m5, hw1, hs1⟩ := L1.cells
      have hne := L1.ne
      have fw := L1.freeW g
      have kw1 := L1.word g hp2'
      have hM1w : M1.w g = wd := hM1
      rw [hM1w] at kw1
      have ks1 := L1.key (8 * g + i) hp1'
      have ks2 := L1.val (8 * g + i) hp1'
      have fs1 := L1.freeS ((8 * g + i) * 2)
      have fs2 := L1.freeS ((8 * g + i) * 2 + 1)
      have fn1 := L1.free 4
      have hj1 : 8 * (g : Int) + i < M1.ss.length := by omega
      have hj2 : M1.n ≤ 1099511627776 := by rw [hM1n]; omega
      have hni : Hid (((M1.n - 1 : Nat) : Int) = (M1.n : Int) - 1) := by
        show _ = _
        rw [hM1n]; omega
      have HM10 : Hid (M1 = _) := hM10
      clear hM10 hM1 hM1n hM1w h8 hi0 hi2
      refine wp_last (by kernel_rfl) (by kernel_rfl) ?_
      dsimp only [initL, lastL]
      repeat (go_big_quiet_step ((go_at_call 44; exact Calls.quiet_of_same (rset_any wd (8 * (g : Int) + i) i 254 h9 _ hwd (by omega)))))
      refine wpQuiet_nil ?_
      rintro _ ⟨nq, rfl⟩
      gi_wp2
      have L2 := (L1.drewN nq).setW g (putN wd i 254)
      have hbut2 := (hbut.drewN nq).setCell (p := ⟨bw, g, none⟩) (.inl (by simp)) (.int .u64 ((putN wd i 254 : Nat) : Int))
      generalize (w2.drewN nq).setCell ⟨bw, g, none⟩ (.int .u64 ((putN wd i 254 : Nat) : Int)) = w3 at *
      obtain ⟨w1'', s1'', _, _, n2, n3, n4, n5, _, _⟩ := L2.cells
      have ks1' := L2.key (8 * g + i) hp1'
      have ks2' := L2.val (8 * g + i) hp1'
      have fs1' := L2.freeS ((8 * g + i) * 2)
      have fs2' := L2.freeS ((8 * g + i) * 2 + 1)
      have fn1' := L2.free 4
      clear m2 m3 m4 m5 ks1 ks2 fs1 fs2 fn1 fw kw1 hw1 hs1 hbut
      go_wp2
      go_ret
      refine ⟨rfl, ?_, ?_⟩
      · have hfin := (L2.setS (8 * g + i) ByteArray.empty (.string ⟨#[]⟩)).setN (M1.n - 1)
        rw [hni.out] at hfin
        have hM10 := HM10.out
        subst hM10
        exact hfin
      · exact (((hbut2.setCell (p := ⟨bs, (8 * g + i) * 2, none⟩) (.inl (by simp)) _).setCell (p := ⟨bs, (8 * g + i) * 2 + 1, none⟩) (.inl (by simp)) _).setCell (p := ⟨b, 4, none⟩) (.inl (by simp)) _)
    · have hE' : hasE wd = true := by rw [hE, decide_eq_false hem]; rfl
      clear hE
      simp only [hE', if_true]
      clear hE'
      have hem' : (matchN wd 128 : Int) ≠ 0 := by omega
      go_enter Tryz.func13, Tryz.ntmps13
      go_wp2_with fail
      refine hfind.mono ?_
      rintro e w1 ⟨rfl, hb⟩
      have hl := h.below hb (Nat.le_refl _)
      obtain ⟨dw, ds, _, _, k2, k3, k4, k5, hdw, hds⟩ := hl.cells
      have kw := hl.word g hp2
      rw [hwd0] at kw
      have f5 := hl.free 5
      have hbut : But [b, bw, bs] w w1 := But.of_below hb (Nat.le_refl _)
      clear hfind hs8 hwd0
      go_wp2_with (go_at_call 43; refine same_mono (rmatch_any wd 128 _ hwd) ?_)
      have L1 := hl
      clear k2 k3 k4 k5 f5 hl kw
      obtain ⟨M1, hM10⟩ : ∃ M1 : SM, M1 = M := ⟨_, rfl⟩
      have hM1 : M1.w g = wd := by rw [hM10]; exact hwd1.out
      have hM1n : M1.n = M.n := by rw [hM10]
      rw [← hM10] at L1
      have hp1' : 8 * g + i < M1.ss.length := by rw [hM10]; exact hp1
      have hp2' : g < M1.ws.length := by rw [hM10]; exact hp2
      obtain ⟨w1', s1', _, _, m2, m3, m4, m5, hw1, hs1⟩ := L1.cells
      have hne := L1.ne
      have fw := L1.freeW g
      have kw1 := L1.word g hp2'
      have hM1w : M1.w g = wd := hM1
      rw [hM1w] at kw1
      have ks1 := L1.key (8 * g + i) hp1'
      have ks2 := L1.val (8 * g + i) hp1'
      have fs1 := L1.freeS ((8 * g + i) * 2)
      have fs2 := L1.freeS ((8 * g + i) * 2 + 1)
      have fn1 := L1.free 4
      have hj1 : 8 * (g : Int) + i < M1.ss.length := by omega
      have hj2 : M1.n ≤ 1099511627776 := by rw [hM1n]; omega
      have hni : Hid (((M1.n - 1 : Nat) : Int) = (M1.n : Int) - 1) := by
        show _ = _
        rw [hM1n]; omega
      have HM10 : Hid (M1 = _) := hM10
      clear hM10 hM1 hM1n hM1w h8 hi0 hi2
      refine wp_last (by kernel_rfl) (by kernel_rfl) ?_
      dsimp only [initL, lastL]
      repeat (go_big_quiet_step ((go_at_call 44; exact Calls.quiet_of_same (rset_any wd (8 * (g : Int) + i) i 128 h9 _ hwd (by omega)))))
      refine wpQuiet_nil ?_
      rintro _ ⟨nq, rfl⟩
      gi_wp2
      have L2 := (L1.drewN nq).setW g (putN wd i 128)
      have hbut2 := (hbut.drewN nq).setCell (p := ⟨bw, g, none⟩) (.inl (by simp)) (.int .u64 ((putN wd i 128 : Nat) : Int))
      generalize (w1.drewN nq).setCell ⟨bw, g, none⟩ (.int .u64 ((putN wd i 128 : Nat) : Int)) = w3 at *
      obtain ⟨w1'', s1'', _, _, n2, n3, n4, n5, _, _⟩ := L2.cells
      have ks1' := L2.key (8 * g + i) hp1'
      have ks2' := L2.val (8 * g + i) hp1'
      have fs1' := L2.freeS ((8 * g + i) * 2)
      have fs2' := L2.freeS ((8 * g + i) * 2 + 1)
      have fn1' := L2.free 4
      clear m2 m3 m4 m5 ks1 ks2 fs1 fs2 fn1 fw kw1 hw1 hs1 hbut
      go_wp2
      go_ret
      refine ⟨rfl, ?_, ?_⟩
      · have hfin := (L2.setS (8 * g + i) ByteArray.empty (.string ⟨#[]⟩)).setN (M1.n - 1)
        rw [hni.out] at hfin
        have hM10 := HM10.out
        subst hM10
        exact hfin
      · exact (((hbut2.setCell (p := ⟨bs, (8 * g + i) * 2, none⟩) (.inl (by simp)) _).setCell (p := ⟨bs, (8 * g + i) * 2 + 1, none⟩) (.inl (by simp)) _).setCell (p := ⟨b, 4, none⟩) (.inl (by simp)) _)
end Go.Proofs.YthlghokgknkpaaaGreatDoor
