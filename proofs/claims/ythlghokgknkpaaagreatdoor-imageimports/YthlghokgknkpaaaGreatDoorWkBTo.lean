import Derived.Test.YthlghokgknkpaaaGreatDoorSip2To
import Derived.Test.YthlghokgknkpaaaGreatDoorWkATo
import Derived.Laws.Cover1
import Derived.Deep.LoopGhost
import Derived.OwnWalk
/-
  Rows of pairs in memory: read, made by the call, cut, appended to.
-/
namespace Go.Proofs.YthlghokgknkpaaaGreatDoor
open Go.RowKit Go.Shelf

/-- A pair's two cells; a row's cells. -/
def encP (p : ByteArray × ByteArray) : List Value := [.string p.1, .string p.2]
def pairsV (l : List (ByteArray × ByteArray)) : List Value := (l.map encP).flatten
theorem pairsV_nil : pairsV [] = [] := rfl
theorem pairsV_cons (p : ByteArray × ByteArray) (l : List (ByteArray × ByteArray)) : pairsV (p :: l) = .string p.1 :: .string p.2 :: pairsV l := rfl
theorem pairsV_append (l m : List (ByteArray × ByteArray)) : pairsV (l ++ m) = pairsV l ++ pairsV m := by simp [pairsV]
theorem pairsV_length : ∀ l : List (ByteArray × ByteArray), (pairsV l).length = l.length * 2
  | [] => rfl
  | p :: l => by rw [pairsV_cons, List.length_cons, List.length_cons, pairsV_length l, List.length_cons]; omega
theorem pairsV_one : ∀ l : List (ByteArray × ByteArray), ∀ u ∈ pairsV l, u.oneCell' = true
  | [], u, h => by cases h
  | p :: l, u, h => by
    rw [pairsV_cons] at h
    rcases List.mem_cons.1 h with rfl | h
    · rfl
    rcases List.mem_cons.1 h with rfl | h
    · rfl
    · exact pairsV_one l u h
theorem pairsV_key : ∀ {l : List (ByteArray × ByteArray)} {i : Nat}, i < l.length → (pairsV l)[i * 2]? = some (.string (l.getD i default).1)
  | [], i, h => by cases h
  | p :: l, 0, _ => rfl
  | p :: l, i + 1, h => by
    rw [pairsV_cons, show (i + 1) * 2 = i * 2 + 1 + 1 by omega, List.getElem?_cons_succ, List.getElem?_cons_succ, pairsV_key (by simpa using h), List.getD_cons_succ]
theorem pairsV_val : ∀ {l : List (ByteArray × ByteArray)} {i : Nat}, i < l.length → (pairsV l)[i * 2 + 1]? = some (.string (l.getD i default).2)
  | [], i, h => by cases h
  | p :: l, 0, _ => rfl
  | p :: l, i + 1, h => by
    rw [pairsV_cons, show (i + 1) * 2 + 1 = i * 2 + 1 + 1 + 1 by omega, List.getElem?_cons_succ, List.getElem?_cons_succ, pairsV_val (by simpa using h), List.getD_cons_succ]
theorem pairsV_drop (l : List (ByteArray × ByteArray)) : ∀ k, pairsV (l.drop k) = (pairsV l).drop (k * 2) := by
  induction l with
  | nil => intro k; simp [pairsV]
  | cons p l ih =>
    intro k
    cases k with
    | zero => simp
    | succ k => rw [List.drop_succ_cons, ih k, pairsV_cons, show (k + 1) * 2 = k * 2 + 1 + 1 by omega, List.drop_succ_cons, List.drop_succ_cons]
theorem pairsV_take (l : List (ByteArray × ByteArray)) : ∀ k, pairsV (l.take k) = (pairsV l).take (k * 2) := by
  induction l with
  | nil => intro k; simp [pairsV]
  | cons p l ih =>
    intro k
    cases k with
    | zero => simp [pairsV]
    | succ k => rw [List.take_succ_cons, pairsV_cons, ih k, pairsV_cons, show (k + 1) * 2 = k * 2 + 1 + 1 by omega, List.take_succ_cons, List.take_succ_cons]
theorem pgetD {l : List (ByteArray × ByteArray)} {i : Nat} (h : i < l.length) : l.getD i default = l[i] := by
  rw [List.getD_eq_getElem?_getD, List.getElem?_eq_getElem h]
  rfl
theorem pgetD_mem {l : List (ByteArray × ByteArray)} {i : Nat} (h : i < l.length) : l.getD i default ∈ l := by rw [pgetD h]; exact List.getElem_mem h
theorem ptake_snoc {l : List (ByteArray × ByteArray)} {i : Nat} (h : i < l.length) : l.take i ++ [l.getD i default] = l.take (i + 1) := by rw [pgetD h, List.take_succ_eq_append_getElem h]

/-- The value v is a slice that reads as these pairs. -/
def HasP (w : World) (v : Value) (l : List (ByteArray × ByteArray)) : Prop :=
  ∃ p c, v = .slice p l.length c ∧ l.length ≤ c ∧ (p = none → c = 0) ∧
    (0 < l.length → ∃ b o, p = some ⟨b, o, none⟩ ∧ b < w.heap.size ∧ ∀ j u, (pairsV l)[j]? = some u → w.cell? ⟨b, o + j, none⟩ = some u)
theorem HasP.below {w w' : World} {B : Nat} {v : Value} {l : List (ByteArray × ByteArray)} (h : HasP w v l) (hb : Below B w w') (hB : w.heap.size ≤ B) : HasP w' v l := by
  obtain ⟨p, c, rfl, h1, h2, h3⟩ := h
  refine ⟨p, c, rfl, h1, h2, fun h0 => ?_⟩
  obtain ⟨b, o, rfl, hlt, hc⟩ := h3 h0
  exact ⟨b, o, rfl, Nat.lt_of_lt_of_le hlt hb.size, fun j u hj => (hb.cell (p := ⟨b, o + j, none⟩) (by exact Nat.lt_of_lt_of_le hlt hB)).trans (hc j u hj)⟩
theorem HasP.nil0 (w : World) : HasP w (.slice none 0 0) [] := ⟨_, _, rfl, Nat.le_refl _, fun _ => rfl, fun h => by simp at h⟩
/-- The pair at place j. -/
theorem HasP.at {w : World} {p : Option Addr} {n c : Nat} {l : List (ByteArray × ByteArray)} (h : HasP w (.slice p n c) l) {j : Nat} (hj : j < n) :
    ∃ b o, p = some ⟨b, o, none⟩ ∧ b < w.heap.size ∧ n ≤ c ∧ n = l.length ∧ w.cell? ⟨b, o + j * 2, none⟩ = some (.string (l.getD j default).1) ∧ w.cell? ⟨b, o + j * 2 + 1, none⟩ = some (.string (l.getD j default).2) := by
  obtain ⟨p', c', e, h1, _, h3⟩ := h
  simp only [Value.slice.injEq] at e
  obtain ⟨rfl, rfl, rfl⟩ := e
  obtain ⟨b, o, rfl, hlt, hc⟩ := h3 (by omega)
  exact ⟨b, o, rfl, hlt, h1, rfl, hc _ _ (pairsV_key hj), by rw [Nat.add_assoc]; exact hc _ _ (pairsV_val hj)⟩
theorem HasP.len {w : World} {p : Option Addr} {n c : Nat} {l : List (ByteArray × ByteArray)} (h : HasP w (.slice p n c) l) : n = l.length ∧ n ≤ c := by
  obtain ⟨p', c', e, h1, _, _⟩ := h
  simp only [Value.slice.injEq] at e
  obtain ⟨rfl, rfl, rfl⟩ := e
  exact ⟨rfl, h1⟩
/-- 's[lo:lo+m]'. -/
theorem HasP.cut {w : World} {b o n c : Nat} {l : List (ByteArray × ByteArray)} (h : HasP w (.slice (some ⟨b, o, none⟩) n c) l) (lo m : Nat) (hm : lo + m ≤ n) : HasP w (.slice (some ⟨b, o + lo * 2, none⟩) m (c - lo)) ((l.drop lo).take m) := by
  obtain ⟨p, c', e, h1, _, h3⟩ := h
  simp only [Value.slice.injEq] at e
  obtain ⟨rfl, rfl, rfl⟩ := e
  have hl : ((l.drop lo).take m).length = m := by rw [List.length_take, List.length_drop]; omega
  refine ⟨_, _, by rw [hl], by rw [hl]; omega, (fun h => by cases h), fun h0 => ?_⟩
  rw [hl] at h0
  obtain ⟨b', o', e, hlt, hc⟩ := h3 (by omega)
  simp only [Option.some.injEq, Addr.mk.injEq] at e
  obtain ⟨rfl, rfl, _⟩ := e
  refine ⟨b, o + lo * 2, rfl, hlt, fun j u hj => ?_⟩
  rw [pairsV_take, pairsV_drop] at hj
  rw [Nat.add_assoc]
  refine hc _ _ ?_
  rw [List.getElem?_take] at hj
  split at hj
  · rw [List.getElem?_drop] at hj; exact hj
  · cases hj

/-- The value v is a slice that the call made, in a row from block B on. -/
def OwnsP (w : World) (B : Nat) (v : Value) (l : List (ByteArray × ByteArray)) : Prop := w.ownsRow B 35 2 v l.length (pairsV l)
theorem OwnsP.has {w : World} {B : Nat} {v : Value} {l : List (ByteArray × ByteArray)} (h : OwnsP w B v l) : HasP w v l := by
  rcases h.2 with ⟨rfl, hn⟩ | ⟨g, cap, cur, rfl, hB, hg, hnc, _, _, _⟩
  · exact ⟨none, 0, by rw [hn], by omega, fun _ => rfl, fun h0 => by omega⟩
  · refine ⟨some ⟨g, 0, none⟩, cap, rfl, hnc, (fun h0 => by cases h0), fun _ => ⟨g, 0, rfl, (Array.getElem?_eq_some_iff.1 hg).1, fun j u hj => ?_⟩⟩
    have hc := World.ownsRow.cells h (g := g) rfl j u hj
    rw [Addr.add_lit] at hc
    exact hc
theorem OwnsP.below {w w' : World} {B B' : Nat} {v : Value} {l : List (ByteArray × ByteArray)} (h : OwnsP w B v l) (hb : Below B' w w') (hB : w.heap.size ≤ B') : OwnsP w' B v l := by
  refine ⟨h.1, ?_⟩
  rcases h.2 with hn | ⟨g, cap, cur, rfl, hb1, hg, rest⟩
  · exact .inl hn
  · refine .inr ⟨g, cap, cur, rfl, hb1, ?_, rest⟩
    rw [hb.block g (Nat.lt_of_lt_of_le (Array.getElem?_eq_some_iff.1 hg).1 hB)]
    exact hg
theorem OwnsP.mono {w : World} {B B' : Nat} {v : Value} {l : List (ByteArray × ByteArray)} (h : OwnsP w B v l) (hB : B' ≤ B) : OwnsP w B' v l := row_mono h hB
theorem OwnsP.nil0 (w : World) (B : Nat) : OwnsP w B (.slice none 0 0) [] := World.ownsRow_nil w B _ 2
/-- A row of pairs in a block of its kind. -/
def RowP (w : World) (v : Value) (l : List (ByteArray × ByteArray)) : Prop :=
  ∃ p c, v = .slice p l.length c ∧ l.length ≤ c ∧ (p = none → c = 0) ∧
    (0 < l.length → ∃ b o cur f, p = some ⟨b, o, none⟩ ∧ w.heap[b]? = some (Obj.cells cur 35 f) ∧ ∀ j u, (pairsV l)[j]? = some u → w.cell? ⟨b, o + j, none⟩ = some u)
theorem RowP.has {w : World} {v : Value} {l : List (ByteArray × ByteArray)} (h : RowP w v l) : HasP w v l := by
  obtain ⟨p, c, rfl, h1, h2, h3⟩ := h
  refine ⟨p, c, rfl, h1, h2, fun h0 => ?_⟩
  obtain ⟨b, o, cur, f, rfl, hb, hc⟩ := h3 h0
  exact ⟨b, o, rfl, (Array.getElem?_eq_some_iff.1 hb).1, hc⟩
theorem RowP.kinds {T : List TypeId} {w w' : World} {v : Value} {l : List (ByteArray × ByteArray)} (h : RowP w v l) (hk : Kinds T w w') (hT : 35 ∉ T) : RowP w' v l := by
  obtain ⟨p, c, rfl, h1, h2, h3⟩ := h
  refine ⟨p, c, rfl, h1, h2, fun h0 => ?_⟩
  obtain ⟨b, o, cur, f, rfl, hb, hc⟩ := h3 h0
  have hb' := hk _ b cur f hT hb
  exact ⟨b, o, cur, f, rfl, hb', fun j u hj => (World.cell?_of_block (a := ⟨b, o + j, none⟩) (hb'.trans hb.symm)).trans (hc j u hj)⟩
theorem RowP.below {w w' : World} {v : Value} {l : List (ByteArray × ByteArray)} (h : RowP w v l) (hb : Below w.heap.size w w') : RowP w' v l := h.kinds (T := []) (Kinds.below hb) (by simp)
theorem RowP.of_owns {w : World} {B : Nat} {v : Value} {l : List (ByteArray × ByteArray)} (h : OwnsP w B v l) : RowP w v l := by
  obtain ⟨p, c, hv, h1, h2, h3⟩ := h.has
  refine ⟨p, c, hv, h1, h2, fun h0 => ?_⟩
  obtain ⟨b, o, rfl, hb, hc⟩ := h3 h0
  rcases h.2 with ⟨rfl, hn⟩ | ⟨g, cap, cur, rfl, hB, hg, _⟩
  · omega
  · simp only [Value.slice.injEq, Option.some.injEq, Addr.mk.injEq] at hv
    obtain ⟨⟨rfl, rfl, _⟩, _, _⟩ := hv
    exact ⟨g, 0, cur, _, rfl, hg, hc⟩
end Go.Proofs.YthlghokgknkpaaaGreatDoor

/-
  Contracts: strings.Compare; the two functions of image that compare; slices.BinarySearchFunc of pairs; image.place.
-/
namespace Go.Proofs.YthlghokgknkpaaaGreatDoor
open Go.RowKit Go.Shelf

set_option maxHeartbeats 1000000 in
set_option maxRecDepth 100000 in
theorem compareString_any (a b : ByteArray) (w : World) : Calls Tryz.prog 84 #[.string a, .string b] w fun e w' => e = .returned (.int .i64 (cmpT a b)) ∧ w' = w := by
  unfold cmpT
  go_enter Tryz.func84, Tryz.ntmps84
  go_wp2
  rw [run_callFunc_extern Tryz.func122 (by kernel_rfl) (by kernel_rfl) (by kernel_rfl) (e := Extern.BytealgCompare.compare) (by kernel_rfl), Lib.run_compareString]
  simp only [Result.andThen]
  rw [Oper.upon_value]
  go_wp2
  go_ret
  exact ⟨rfl, rfl⟩

set_option maxHeartbeats 1000000 in
theorem compare_any (a b : ByteArray) (w : World) : Calls Tryz.prog 51 #[.string a, .string b] w fun e w' => e = .returned (.int .i64 (cmpT a b)) ∧ w' = w := by
  go_enter Tryz.func51, Tryz.ntmps51
  go_wp2_with (go_at_call 84; refine same_mono (compareString_any _ _ _) ?_)
  go_ret
  exact ⟨rfl, rfl⟩

set_option maxHeartbeats 1000000 in
theorem place1_any (x : ByteArray × ByteArray) (key : ByteArray) (w : World) : Calls Tryz.prog 86 #[.agg #[.string x.1, .string x.2], .string key] w fun e w' => e = .returned (.int .i64 (cmpT x.1 key)) ∧ Below w.heap.size w w' := by
  go_enter Tryz.func86, Tryz.ntmps86
  go_wp2_with (go_at_call 51; refine same_mono (compare_any _ _ _) ?_)
  go_ret
  exact ⟨rfl, (Below.refl _ _).alloc (Nat.le_refl _) _⟩

set_option maxHeartbeats 4000000 in
set_option maxRecDepth 100000 in
theorem search_any (p : Option Addr) (n c : Nat) (l : List (ByteArray × ByteArray)) (key : ByteArray) (w : World) (hX : HasP w (.slice p n c) l) (hr : Rise l) (hn : n < 4611686018427387904) :
    Calls Tryz.prog 85 #[.slice p n c, .string key, .func (.func 86) #[] #[]] w fun e w' => ∃ b : Bool, e = .returned (.tuple #[.int .i64 (plc l key : Nat), .bool b]) ∧ Below w.heap.size w w' := by
  have hlen : Hid (n = l.length) := hX.len.1
  have hX' : Hid (HasP w (.slice p n c) l) := hX
  have hr' : Hid (Rise l) := hr
  clear hX hr
  go_enter Tryz.func85, Tryz.ntmps85
  go_wp2
  go_loopg [9, 10] n (fun kx s9 s10 wr => ∃ lo hi : Nat, s9 = .int .i64 (lo : Nat) ∧ s10 = .int .i64 (hi : Nat) ∧ lo ≤ hi ∧ hi ≤ n ∧ hi - lo ≤ kx ∧ Below w.heap.size w wr ∧
    Hid ((∀ q ∈ l.take lo, ltT q.1 key = true) ∧ ∀ q ∈ l.drop hi, ltT q.1 key = false))
  case atStart => exact ⟨0, n, rfl, rfl, Nat.zero_le _, Nat.le_refl _, by omega, Below.refl _ _, ⟨(fun q h => by simp at h), fun q h => by rw [hlen.out, List.drop_length] at h; cases h⟩⟩
  case round =>
    obtain ⟨lo, hi, rfl, rfl, hlh, hin, hg, hb, I⟩ := hrel
    by_cases hlt : lo < hi
    · obtain ⟨bb, oo, rfl, hbb, hcc, -, c1, c2⟩ := (hX'.out.below hb (Nat.le_refl _)).at (j := (lo + hi) / 2) (by omega)
      have hml : (lo + hi) / 2 < l.length := by rw [← hlen.out]; omega
      have hq : Hid (l.getD ((lo + hi) / 2) default = l[(lo + hi) / 2]) := pgetD hml
      generalize l.getD ((lo + hi) / 2) default = x at *
      have hcmp := place1_any x key wr
      have hneg : Hid (decide (cmpT x.1 key < 0) = ltT x.1 key) := cmpT_neg x.1 key
      obtain ⟨xk, xv⟩ := x
      dsimp only at c1 c2 hcmp
      by_cases hyx : cmpT xk key < 0
      · have hlt1 : Hid (ltT xk key = true) := by
          have := hneg.out
          rw [decide_eq_true hyx] at this
          exact this.symm
        go_wp2_with (go_at_call 86; refine hcmp.mono ?_; rintro e w1 ⟨rfl, hb1⟩)
        go_roundg (hi - ((lo + hi) / 2 + 1))
        case measure => omega
        case rel =>
          refine ⟨(lo + hi) / 2 + 1, hi, by rw [show ((lo : Int) + (hi : Int)) / 2 + 1 = (((lo + hi) / 2 + 1 : Nat) : Int) by omega], rfl, by omega, hin, Nat.le_refl _, hb.trans (hb1.mono hb.size), ⟨fun q hq' => ?_, I.out.2⟩⟩
          rw [List.take_succ_eq_append_getElem hml] at hq'
          rcases List.mem_append.1 hq' with hq' | hq'
          · obtain ⟨t, ht, rfl⟩ := List.getElem_of_mem hq'
            rw [List.length_take] at ht
            rw [List.getElem_take]
            have h1 := List.pairwise_iff_getElem.1 hr'.out t ((lo + hi) / 2) (by omega) hml (by omega)
            rw [← hq.out] at h1
            exact ltT_trans h1 hlt1.out
          · rw [List.mem_singleton] at hq'
            rw [hq', ← hq.out]
            exact hlt1.out
      · have hlt1 : Hid (ltT xk key = false) := by
          have := hneg.out
          rw [decide_eq_false hyx] at this
          exact this.symm
        go_wp2_with (go_at_call 86; refine hcmp.mono ?_; rintro e w1 ⟨rfl, hb1⟩)
        go_roundg ((lo + hi) / 2 - lo)
        case measure => omega
        case rel =>
          refine ⟨lo, (lo + hi) / 2, rfl, by rw [show ((lo : Int) + (hi : Int)) / 2 = (((lo + hi) / 2 : Nat) : Int) by omega], by omega, by omega, Nat.le_refl _, hb.trans (hb1.mono hb.size), ⟨I.out.1, fun q hq' => ?_⟩⟩
          rw [List.drop_eq_getElem_cons hml] at hq'
          rcases List.mem_cons.1 hq' with hq' | hq'
          · rw [hq', ← hq.out]
            exact hlt1.out
          · obtain ⟨t, ht, rfl⟩ := List.getElem_of_mem hq'
            rw [List.length_drop] at ht
            rw [List.getElem_drop]
            have h1 := List.pairwise_iff_getElem.1 hr'.out ((lo + hi) / 2) ((lo + hi) / 2 + 1 + t) hml (by omega) (by omega)
            rw [← hq.out] at h1
            cases hk : ltT (l[(lo + hi) / 2 + 1 + t]'(by omega)).1 key with
            | false => rfl
            | true => have := ltT_trans h1 hk; rw [hlt1.out] at this; cases this
    · obtain rfl : hi = lo := by omega
      have hpl : Hid (hi = plc l key) := plc_is (by rw [← hlen.out]; exact hin) I.out.1 I.out.2
      by_cases hn : hi < n
      · obtain ⟨bb, oo, rfl, hbb, hcc, -, c1, c2⟩ := (hX'.out.below hb (Nat.le_refl _)).at (j := hi) hn
        generalize l.getD hi default = x at *
        have hcmp := place1_any x key wr
        obtain ⟨xk, xv⟩ := x
        dsimp only at c1 c2 hcmp
        generalize cmpT xk key = r at *
        go_wp2_with (go_at_call 86; refine hcmp.mono ?_; rintro e w1 ⟨rfl, hb1⟩)
        all_goals
          go_ret2
          rw [← hpl.out]
          exact ⟨_, rfl, hb.trans (hb1.mono hb.size)⟩
      · go_wp2
        go_ret2
        rw [← hpl.out]
        exact ⟨_, rfl, hb⟩

set_option maxHeartbeats 1000000 in
theorem place_any (p : Option Addr) (n c : Nat) (l : List (ByteArray × ByteArray)) (key : ByteArray) (w : World) (hX : HasP w (.slice p n c) l) (hr : Rise l) (hn : n < 4611686018427387904) :
    Calls Tryz.prog 52 #[.slice p n c, .string key] w fun e w' => e = .returned (.int .i64 (plc l key : Nat)) ∧ Below w.heap.size w w' := by
  have hs := search_any p n c l key w hX hr hn
  clear hX hr hn
  go_enter Tryz.func52, Tryz.ntmps52
  go_wp2_with (go_at_call 85; refine hs.mono ?_; rintro e w1 ⟨b, rfl, hb1⟩)
  go_ret
  exact ⟨rfl, hb1⟩
end Go.Proofs.YthlghokgknkpaaaGreatDoor

/-
  Contracts: Walk[string].Left, walk.New[string], Walk[string].Next.
-/
namespace Go.Proofs.YthlghokgknkpaaaGreatDoor
open Go.RowKit Go.Shelf

theorem left_any_s (x : Nat) (m : Value) (xs : List ByteArray) (w : World) (h : Wk 141 w x m xs) : Calls Tryz.prog 110 #[.pointer (some ⟨x, 0, none⟩)] w fun e w' => e = .returned (.int .i64 (xs.length : Nat)) ∧ w' = w := by
  obtain ⟨v, c0, c1, f1, ⟨p, c, rfl, h1, h2, h3⟩, _⟩ := h.cells
  clear h3
  go_enter Tryz.func110, Tryz.ntmps110
  go_wp2
  go_ret
  exact ⟨rfl, rfl⟩

theorem wk_new (w : World) (m v : Value) (t : TypeId) (xs : List ByteArray) (h : RowT w v xs) : Wk t (w.alloc (.cells #[m, v] t)) w.heap.size m xs := ⟨v, heap_alloc_new _ _, h.below ((Below.refl _ _).alloc (Nat.le_refl _) _)⟩

set_option maxHeartbeats 1000000 in
theorem wnew_any_s (b bw bs : Nat) (M : SM) (w : World) (hT : Tab w) (h : Lies 74 71 w b bw bs M) (hI : M.Inv IsV_s) :
    Calls Tryz.prog 80 #[.pointer (some ⟨b, 0, none⟩)] w fun e w' => ∃ x, e = .returned (.pointer (some ⟨x, 0, none⟩)) ∧ Wk 141 w' x (.pointer (some ⟨b, 0, none⟩)) M.keys ∧ w.heap.size ≤ x ∧ x < w'.heap.size ∧ Below w.heap.size w w' := by
  have hk := keys_any_s b bw bs M w hT h hI.fit (full_n hI)
  have hkl := keys_len hI
  go_enter Tryz.func80, Tryz.ntmps80
  go_wp2_with fail
  refine hk.mono ?_
  rintro e w1 ⟨g, rfl, hg, ho, hb⟩
  have hr : RowT w1 (.slice (some ⟨g, 0, none⟩) M.n M.n) M.keys := RowT.of_owns (B := 0) (by unfold OwnsT; rw [hkl]; exact ho)
  have hw := wk_new w1 (.pointer (some ⟨b, 0, none⟩)) (.slice (some ⟨g, 0, none⟩) M.n M.n) 141 M.keys hr
  clear hk ho
  go_wp2
  go_ret
  exact ⟨_, rfl, hw, hb.size, by simp, hb.alloc hb.size _⟩

/-- How many are ahead of the walk in block x. -/
def aheadN (x : Nat) (w : World) : Nat := match w.cell? ⟨x, 1, none⟩ with | some (.slice _ n _) => n | _ => 0
theorem aheadN_is {tW : TypeId} {w : World} {x : Nat} {m : Value} {xs : List ByteArray} (h : Wk tW w x m xs) : aheadN x w = xs.length := by
  obtain ⟨v, _, c1, _, ⟨p, c, rfl, _⟩, _⟩ := h.cells
  unfold aheadN
  rw [c1]

set_option maxRecDepth 10000 in
set_option maxHeartbeats 2000000 in
theorem wnext_any_s (x b bw bs : Nat) (M : SM) (xs : List ByteArray) (w : World) (hT : Tab w) (h : Lies 74 71 w b bw bs M) (hI : M.Inv IsV_s) (hs : ∀ k ∈ xs, k.size < 140737488355328) (hx0 : 0 < x) (hW : Wk 141 w x (.pointer (some ⟨b, 0, none⟩)) xs) :
    Calls Tryz.prog 81 #[.pointer (some ⟨x, 0, none⟩)] w fun e w' => e = .returned (.tuple #[.string (M.nk xs), .string (M.nv xs), .bool (M.nb xs)]) ∧ Wk 141 w' x (.pointer (some ⟨b, 0, none⟩)) (M.skip xs).tail ∧ But [x] w w' := by
  obtain ⟨_, hW1, _⟩ := id hW
  go_enter Tryz.func81, Tryz.ntmps81
  go_wp2
  go_loopw [3] (fun v wr => v = .string ⟨#[]⟩ ∧ ∃ ys, (∃ pre, xs = pre ++ ys) ∧ Hid (M.skip xs = M.skip ys) ∧ Wk 141 wr x (.pointer (some ⟨b, 0, none⟩)) ys ∧ But [x] w wr) (fun _ wr => aheadN x wr)
  case atStart => exact ⟨rfl, xs, ⟨[], rfl⟩, rfl, hW, But.refl _ _⟩
  case round =>
    obtain ⟨rfl, ys, ⟨pre, hpre⟩, hsk, hWr, hbr⟩ := hrel
    have hleft := left_any_s x _ ys wr hWr
    cases ys with
    | nil =>
      clear hpre hs
      go_wp2_with fail
      refine same_mono hleft ?_
      go_wp2
      go_ret3
      refine ⟨?_, by rw [hsk.out]; exact hWr, hbr⟩
      unfold SM.nk SM.nv SM.nb
      rw [hsk.out]
      rfl
    | cons k r =>
      have hks : k.size < 140737488355328 := hs k (by rw [hpre]; simp)
      obtain ⟨v, c0, c1, f1, hrow, hob⟩ := hWr.cells
      obtain ⟨p, c, rfl, _⟩ := id hrow
      obtain ⟨g, o, q, rfl, hn, hc, ck, ⟨cur, f, hg⟩, hif, htail⟩ := hrow.tail
      have hset := Wk.set (m := .pointer (some ⟨b, 0, none⟩)) (by decide) hob htail
      have hbs : But [x] w (wr.setCell ⟨x, 1, none⟩ (.slice (some q) r.length (c - 1))) := hbr.setCell (.inl (by simp)) _
      have hL2 := h.other (by decide) hW1 hbs
      have hT2 := hbs.tab hT (by simp; omega)
      have hget := get_map_s b bw bs M k _ hT2 hL2 hI.fit hI.typed hks
      rw [get_val hI, get_is] at hget
      rw [List.length_cons] at hleft
      have hm1 := aheadN_is hWr
      have hm2 := aheadN_is hset
      clear hW1 hob hrow
      go_wp2_with fail
      refine same_mono hleft ?_
      go_wp2_with fail
      refine hget.mono ?_
      rintro e w2 ⟨rfl, hb2⟩
      have hW2 := hset.below hb2
      have hB2 : But [x] w w2 := hbs.trans (But.of_below hb2 (Nat.le_refl _))
      have hm3 := aheadN_is hW2
      clear hget hb2 hset hbs hL2 hT2 htail hif ck hg c1 c0 f1 hWr
      cases hfd : (M.find k).isSome with
      | true =>
        have hsk2 : Hid (M.skip xs = k :: r) := by show _ = _; rw [hsk.out, skip_here hfd]
        go_wp2
        go_ret3
        refine ⟨?_, by rw [hsk2.out]; exact hW2, hB2⟩
        unfold SM.nk SM.nv SM.nb
        rw [hsk2.out]
        rfl
      | false =>
        have hsk2 : Hid (M.skip xs = M.skip r) := by show _ = _; rw [hsk.out, skip_gone hfd]
        have hvz : valK M k = ⟨#[]⟩ := by unfold valK; rw [get_not hfd]
        rw [hvz]
        go_wp2
        go_roundw
        case rel => exact ⟨rfl, r, ⟨pre ++ [k], by rw [hpre]; simp⟩, hsk2, hW2, hB2⟩
        case measure => rw [hm1, hm3]; simp
end Go.Proofs.YthlghokgknkpaaaGreatDoor
