import Derived.Test.YthlghokgknkpaaaDoorRqTo
import Derived.Test.YthlghokgknkpaaaDoorSwKsTo
import Derived.Laws.OwnMore
/-
  Rows that the call made, read as rows; what one act does to a map.
-/
namespace Go.Proofs.YthlghokgknkpaaaDoor
open Go.RowKit Go.Shelf

theorem hasT_owns {w : World} {B : Nat} {v : Value} {xs : List ByteArray} (h : w.ownsRow B 9 1 v xs.length (textsV xs)) : HasT w v xs := by
  rcases h.2 with ⟨rfl, hn⟩ | ⟨g, cap, cur, rfl, hB, hg, hnc, _, _, _⟩
  · exact ⟨none, 0, by rw [hn], by omega, fun _ => rfl, fun h0 => by omega⟩
  · refine ⟨some ⟨g, 0, none⟩, cap, rfl, hnc, (fun h0 => by cases h0), fun _ => ⟨g, 0, rfl, (Array.getElem?_eq_some_iff.1 hg).1, fun i hi => ?_⟩⟩
    have hc := World.ownsRow.cells h (g := g) rfl i (.string (xs.getD i ByteArray.empty)) (by simp [textsV, List.getElem?_eq_getElem hi])
    rw [Addr.add_lit] at hc
    exact hc
theorem hasW_owns {w : World} {B : Nat} {v : Value} {xs : List Nat} (h : w.ownsRow B 22 1 v xs.length (cellsW xs)) : HasW w v xs := by
  rcases h.2 with ⟨rfl, hn⟩ | ⟨g, cap, cur, rfl, hB, hg, hnc, _, _, _⟩
  · exact ⟨none, 0, by rw [hn], by omega, fun _ => rfl, fun h0 => by omega⟩
  · refine ⟨some ⟨g, 0, none⟩, cap, rfl, hnc, (fun h0 => by cases h0), fun _ => ⟨g, 0, rfl, (Array.getElem?_eq_some_iff.1 hg).1, fun i hi => ?_⟩⟩
    have hc := World.ownsRow.cells h (g := g) rfl i (.int .u64 ((xs.getD i 0 : Nat) : Int)) (by simp [cellsW, List.getElem?_eq_getElem hi])
    rw [Addr.add_lit] at hc
    exact hc

theorem isV_string (x : ByteArray) : IsV_s (.string x) := ⟨x, rfl⟩
theorem keys_len {M : SM} {K : Value → Prop} (h : M.Inv K) : M.keys.length = M.n := by
  unfold SM.keys
  rw [List.length_map, full_n h]
theorem keys_has {M : SM} {K : Value → Prop} (h : M.Inv K) {k : ByteArray} (hk : k ∈ M.keys) : (M.find k).isSome = true := by
  obtain ⟨p, hp, rfl⟩ := List.mem_map.1 hk
  obtain ⟨p1, p2⟩ := full_mem.1 hp
  rw [(find_is h).2 ⟨p1, p2, rfl⟩]
  rfl

/-- The act at place j of a row that came in. -/
theorem act_at {w wr : World} {p : Option Addr} {n c : Nat} {xs : List Act'} (hX : HasA w (.slice p n c) xs) (hb : Below w.heap.size w wr) {j : Nat} (hj : j < n) :
    ∃ bb oo, p = some ⟨bb, oo, none⟩ ∧ bb < w.heap.size ∧ n ≤ c ∧ wr.cell? ⟨bb, oo + j * 3, none⟩ = some (.int .i64 (xs.getD j default).kind) ∧ wr.cell? ⟨bb, oo + j * 3 + 1, none⟩ = some (.string (xs.getD j default).key) ∧ wr.cell? ⟨bb, oo + j * 3 + 2, none⟩ = some (.string (xs.getD j default).value) ∧
      (xs.getD j default).key.size ≤ 140737488351232 ∧ (xs.getD j default).value.size ≤ 140737488351232 := by
  obtain ⟨p', c', hpv, hcc, _, hcell⟩ := hX
  simp only [Value.slice.injEq] at hpv
  obtain ⟨rfl, hnn, rfl⟩ := hpv
  obtain ⟨bb, oo, rfl, hbb, hcell⟩ := hcell (by omega)
  obtain ⟨c1, c2, c3, z1, z2⟩ := hcell j (by omega)
  exact ⟨bb, oo, rfl, hbb, by omega, (hb.cell (p := ⟨bb, oo + j * 3, none⟩) hbb).trans c1, (hb.cell (p := ⟨bb, oo + j * 3 + 1, none⟩) hbb).trans c2, (hb.cell (p := ⟨bb, oo + j * 3 + 2, none⟩) hbb).trans c3, z1, z2⟩

/-- The text at place j of a row. -/
theorem text_at {w wr : World} {B : Nat} {p : Option Addr} {n c : Nat} {xs : List ByteArray} (hX : HasT w (.slice p n c) xs) (hb : Below B w wr) (hB : w.heap.size ≤ B) {j : Nat} (hj : j < n) :
    ∃ bb oo, p = some ⟨bb, oo, none⟩ ∧ n ≤ c ∧ j < xs.length ∧ wr.cell? ⟨bb, oo + j, none⟩ = some (.string (xs.getD j ByteArray.empty)) := by
  obtain ⟨p', c', hpv, hcc, _, hcell⟩ := hX
  simp only [Value.slice.injEq] at hpv
  obtain ⟨rfl, hnn, rfl⟩ := hpv
  obtain ⟨bb, oo, rfl, hbb, hcell⟩ := hcell (by omega)
  exact ⟨bb, oo, rfl, by omega, by omega, (hb.cell (p := ⟨bb, oo + j, none⟩) (by exact Nat.lt_of_lt_of_le hbb hB)).trans (hcell j (by omega))⟩

def OwnsT (w : World) (B : Nat) (v : Value) (xs : List ByteArray) : Prop := w.ownsRow B 9 1 v xs.length (textsV xs)
theorem OwnsT.below {w w' : World} {B B' : Nat} {v : Value} {xs : List ByteArray} (h : OwnsT w B v xs) (hb : Below B' w w') (hB : w.heap.size ≤ B') : OwnsT w' B v xs := by
  refine ⟨h.1, ?_⟩
  rcases h.2 with hn | ⟨g, cap, cur, rfl, hb1, hg, rest⟩
  · exact .inl hn
  · refine .inr ⟨g, cap, cur, rfl, hb1, ?_, rest⟩
    rw [hb.block g (Nat.lt_of_lt_of_le (Array.getElem?_eq_some_iff.1 hg).1 hB)]
    exact hg
/-- 'append(s, x)' of one text: it has just been laid in a block of its own. -/
theorem ap_word {ops : Array Oper} {rest : List Oper} {o : Oper} {a : Act} {Q : Exit → Act → World → Prop} (w : World) (hgd : o.guard = none) (s x : Operand)
    (ho : o.op = .call { callee := .builtin .append, args := #[s, x], argTypes := #[103, 103] })
    (B : Nat) (v : Value) (xs : List ByteArray) (z : ByteArray) (hs : a.eval s = v) (hx : a.eval x = .slice (some ⟨w.heap.size, 0, none⟩) 1 1) (hown : OwnsT w B v xs) (hlen : xs.length ≤ 1099511627776) (hB : B ≤ w.heap.size)
    (h : ∀ v' w', OwnsT w' B v' (xs ++ [z]) → Below B w w' → wpList Tryd.prog ops Q rest (a.put o.dst v') w') :
    wpList Tryd.prog ops Q (o :: rest) a (w.alloc (.cells #[.string z] 9)) := by
  obtain ⟨i, hi, hz, hsize, hby⟩ := info_parts infoT_s
  refine wpList_append_own _ hgd s x 103 ho B 9 i (.string ⟨#[]⟩) 1 16 Tryd.underlying103 hi hz hsize hby rfl (by decide) v xs.length (textsV xs) hs (World.ownsRow.alloc hown _) ⟨w.heap.size, 0, none⟩ 1 1 [.string z] hx rfl ?_ ?_ ?_ ?_ ?_ ?_
  · intro j u hj
    match j, hj with
    | 0, hj => simp at hj; subst hj; simp [Addr.add]
  · intro u hu; simp at hu; subst hu; rfl
  · unfold maxLen; omega
  · omega
  · simp; omega
  · intro v' w' hown' hgrow _
    refine h v' w' ?_ ?_
    · unfold OwnsT textsV
      rw [List.length_append, List.length_singleton, List.map_append]
      exact hown'
    · exact ((Below.refl B w).alloc hB _).trans ((Below.refl _ _).grown hgrow (by simp; omega) fun k hk => (World.ownsRow.lt hown k hk).1)

/-- The text that a map has for a key, or none. -/
def valK (M : SM) (k : ByteArray) : ByteArray :=
  match (M.get k (.string ⟨#[]⟩)).1 with
  | .string s => s
  | _ => ByteArray.empty
theorem get_val {M : SM} (h : M.Inv IsV_s) (k : ByteArray) : (M.get k (.string ⟨#[]⟩)).1 = .string (valK M k) := by
  unfold valK
  obtain ⟨s, hs⟩ : ∃ s, (M.get k (.string ⟨#[]⟩)).1 = .string s := by
    unfold SM.get
    split
    · exact ⟨_, rfl⟩
    · rename_i q hq
      obtain ⟨q1, _, _⟩ := (find_is h).1 hq
      exact h.typed q (by rw [h.fit.slots]; exact q1)
  rw [hs]
theorem get_has {M : SM} (h : M.Inv IsV_s) {k : ByteArray} (hk : k ∈ M.keys) : (M.get k (.string ⟨#[]⟩)).2 = true := by
  have := keys_has h hk
  unfold SM.get
  split
  · rename_i hq; rw [hq] at this; cases this
  · rfl
theorem keys_size {M : SM} {K : Value → Prop} (h : M.Inv K) {k : ByteArray} (hk : k ∈ M.keys) : k.size < 140737488355328 := by
  obtain ⟨p, hp, rfl⟩ := List.mem_map.1 hk
  obtain ⟨p1, p2⟩ := full_mem.1 hp
  exact h.fit.texts p (by rw [h.fit.slots]; exact p1)
theorem getD_mem {xs : List ByteArray} {j : Nat} (hj : j < xs.length) : xs.getD j ByteArray.empty ∈ xs := by
  rw [List.getD_eq_getElem?_getD, List.getElem?_eq_getElem hj]
  exact List.getElem_mem hj
theorem take_getD {xs : List ByteArray} {j : Nat} (hj : j < xs.length) : xs.take (j + 1) = xs.take j ++ [xs.getD j ByteArray.empty] := by
  rw [List.take_succ_eq_append_getElem hj]
  simp [List.getD_eq_getElem?_getD, List.getElem?_eq_getElem hj]

theorem HasT.but {w w' : World} {S : List Nat} {g n c : Nat} {xs : List ByteArray} (h : HasT w (.slice (some ⟨g, 0, none⟩) n c) xs) (hb : But S w w') (hS : g ∉ S) : HasT w' (.slice (some ⟨g, 0, none⟩) n c) xs := by
  obtain ⟨p, c', e, h1, h2, h3⟩ := h
  refine ⟨p, c', e, h1, h2, fun h0 => ?_⟩
  obtain ⟨b, o, rfl, hlt, hc⟩ := h3 h0
  cases e
  exact ⟨g, 0, rfl, Nat.lt_of_lt_of_le hlt hb.size, fun i hi => (World.cell?_of_block (a := ⟨g, 0 + i, none⟩) (hb.block g hlt hS)).trans (hc i hi)⟩
theorem HasW.but {w w' : World} {S : List Nat} {g n c : Nat} {xs : List Nat} (h : HasW w (.slice (some ⟨g, 0, none⟩) n c) xs) (hb : But S w w') (hS : g ∉ S) : HasW w' (.slice (some ⟨g, 0, none⟩) n c) xs := by
  obtain ⟨p, c', e, h1, h2, h3⟩ := h
  refine ⟨p, c', e, h1, h2, fun h0 => ?_⟩
  obtain ⟨b, o, rfl, hlt, hc⟩ := h3 h0
  cases e
  exact ⟨g, 0, rfl, Nat.lt_of_lt_of_le hlt hb.size, fun i hi => (World.cell?_of_block (a := ⟨g, 0 + i, none⟩) (hb.block g hlt hS)).trans (hc i hi)⟩
theorem OwnsT.but {w w' : World} {B : Nat} {v : Value} {xs : List ByteArray} {S : List Nat} (h : OwnsT w B v xs) (hb : But S w w') (hS : ∀ k ∈ S, k < B) : OwnsT w' B v xs := by
  refine ⟨h.1, ?_⟩
  rcases h.2 with hn | ⟨g, cap, cur, rfl, hb1, hg, rest⟩
  · exact .inl hn
  · refine .inr ⟨g, cap, cur, rfl, hb1, ?_, rest⟩
    rw [hb.block g (Array.getElem?_eq_some_iff.1 hg).1 (fun hm => by have := hS g hm; omega)]
    exact hg
theorem getD_map {xs : List ByteArray} {j : Nat} (hj : j < xs.length) (f : ByteArray → ByteArray) : (xs.map f).getD j ByteArray.empty = f (xs.getD j ByteArray.empty) := by
  simp [List.getD_eq_getElem?_getD, List.getElem?_eq_getElem hj]
end Go.Proofs.YthlghokgknkpaaaDoor

/-
  Pairs in a list as what a map tells: the mathematics of SwissMaps.
-/
namespace Go.Proofs.YthlghokgknkpaaaDoor
open Go.RowKit Go.Shelf

/-- A map tells just these pairs, each key once. -/
def Tells (M : SM) (ps : List (ByteArray × ByteArray)) : Prop := (ps.map Prod.fst).Nodup ∧ M.n = ps.length ∧ ∀ k v, M.Has k v ↔ ∃ s, v = .string s ∧ (k, s) ∈ ps
theorem fst_mem {ps : List (ByteArray × ByteArray)} {k : ByteArray} : k ∈ ps.map Prod.fst ↔ ∃ s, (k, s) ∈ ps := by
  constructor
  · intro h
    obtain ⟨⟨a, s⟩, h1, rfl⟩ := List.mem_map.1 h
    exact ⟨s, h1⟩
  · rintro ⟨s, h⟩
    exact List.mem_map.2 ⟨(k, s), h, rfl⟩
theorem tells_none (M : SM) (hn : M.n = 0) (h : ∀ k v, ¬ M.Has k v) : Tells M [] := ⟨List.nodup_nil, hn, fun k v => ⟨fun h' => absurd h' (h k v), by rintro ⟨s, _, h'⟩; cases h'⟩⟩
theorem tells_in {M : SM} {ps : List (ByteArray × ByteArray)} (hI : M.Inv IsV_s) (h : Tells M ps) {k : ByteArray} (hm : k ∈ ps.map Prod.fst) : (M.find k).isSome = true := by
  cases hf : M.find k with
  | none =>
    obtain ⟨s, hs⟩ := fst_mem.1 hm
    exact absurd ((h.2.2 k _).2 ⟨s, rfl, hs⟩) ((find_none_iff hI).1 hf (.string s))
  | some p => rfl
theorem tells_out {M : SM} {ps : List (ByteArray × ByteArray)} (hI : M.Inv IsV_s) (h : Tells M ps) {k : ByteArray} (hm : k ∉ ps.map Prod.fst) : (M.find k).isSome = false := by
  cases hf : M.find k with
  | none => rfl
  | some p =>
    obtain ⟨s, _, hs⟩ := (h.2.2 k _).1 ((has_find hI).2 ⟨p, hf, rfl⟩)
    exact absurd (fst_mem.2 ⟨s, hs⟩) hm
theorem tells_get {M : SM} {ps : List (ByteArray × ByteArray)} (hI : M.Inv IsV_s) (h : Tells M ps) {k s : ByteArray} (hm : (k, s) ∈ ps) : M.get k (.string ⟨#[]⟩) = (.string s, true) := by
  obtain ⟨p, hp, hv⟩ := (has_find hI).1 ((h.2.2 k (.string s)).2 ⟨s, rfl, hm⟩)
  unfold SM.get
  rw [hp]
  show ((M.s p).2, true) = _
  rw [hv]
theorem nodup_one : ∀ {ps : List (ByteArray × ByteArray)}, (ps.map Prod.fst).Nodup → ∀ {i j : Nat} {k a b : ByteArray}, ps[i]? = some (k, a) → ps[j]? = some (k, b) → i = j
  | [], _, i, _, _, _, _, h, _ => by simp at h
  | p :: r, h, i, j, k, a, b, h1, h2 => by
    rw [List.map_cons, List.nodup_cons] at h
    match i, j, h1, h2 with
    | 0, 0, _, _ => rfl
    | i' + 1, j' + 1, g1, g2 =>
      simp only [List.getElem?_cons_succ] at g1 g2
      rw [nodup_one h.2 g1 g2]
    | 0, j' + 1, g1, g2 =>
      simp only [List.getElem?_cons_succ, List.getElem?_cons_zero, Option.some.injEq] at g1 g2
      exact absurd (by rw [g1]; exact fst_mem.2 ⟨b, List.mem_of_getElem? g2⟩) h.1
    | i' + 1, 0, g1, g2 =>
      simp only [List.getElem?_cons_succ, List.getElem?_cons_zero, Option.some.injEq] at g1 g2
      exact absurd (by rw [g2]; exact fst_mem.2 ⟨a, List.mem_of_getElem? g1⟩) h.1
theorem mem_set_one {ps : List (ByteArray × ByteArray)} (hd : (ps.map Prod.fst).Nodup) {i : Nat} {key old v : ByteArray} (hi : ps[i]? = some (key, old)) (k s : ByteArray) : (k, s) ∈ ps.set i (key, v) ↔ (k = key ∧ s = v) ∨ (k ≠ key ∧ (k, s) ∈ ps) := by
  have hlt : i < ps.length := (List.getElem?_eq_some_iff.1 hi).1
  constructor
  · intro h
    obtain ⟨j, hj⟩ := List.getElem?_of_mem h
    rw [List.getElem?_set] at hj
    split at hj
    · simp only [Option.some.injEq, Prod.mk.injEq] at hj
      exact .inl ⟨hj.1.symm, hj.2.symm⟩
    · rename_i hne
      refine .inr ⟨?_, List.mem_of_getElem? hj⟩
      rintro rfl
      exact hne (nodup_one hd hi hj)
  · rintro (⟨rfl, rfl⟩ | ⟨hne, h⟩)
    · exact List.mem_of_getElem? (i := i) (by rw [List.getElem?_set, if_pos rfl, if_pos hlt])
    · obtain ⟨j, hj⟩ := List.getElem?_of_mem h
      refine List.mem_of_getElem? (i := j) ?_
      rw [List.getElem?_set, if_neg]
      · exact hj
      · rintro rfl
        rw [hi] at hj
        simp only [Option.some.injEq, Prod.mk.injEq] at hj
        exact hne hj.1.symm
theorem fst_set {ps : List (ByteArray × ByteArray)} {i : Nat} {key old v : ByteArray} (hi : ps[i]? = some (key, old)) : (ps.set i (key, v)).map Prod.fst = ps.map Prod.fst := by
  rw [List.map_set]
  apply List.ext_getElem?
  intro j
  rw [List.getElem?_set]
  split
  · rename_i e
    subst e
    have hlt : i < ps.length := (List.getElem?_eq_some_iff.1 hi).1
    rw [if_pos (by simpa using hlt), List.getElem?_map, hi]
    rfl
  · rfl
/-- What Put does to the pairs. -/
theorem tells_over {M : SM} {ps : List (ByteArray × ByteArray)} (hI : M.Inv IsV_s) (h : Tells M ps) {i : Nat} {key old v : ByteArray} (hi : ps[i]? = some (key, old)) (hk : key.size < 140737488355328) (hn : M.n < 2000) :
    (M.put key (.string v) (.string ⟨#[]⟩)).1 = true ∧ (M.put key (.string v) (.string ⟨#[]⟩)).2.1 = 0 ∧ (M.put key (.string v) (.string ⟨#[]⟩)).2.2.Inv IsV_s ∧ Tells (M.put key (.string v) (.string ⟨#[]⟩)).2.2 (ps.set i (key, v)) := by
  obtain ⟨i1, _, _, i4⟩ := inv_put hI (key := key) (v := .string v) (z := .string ⟨#[]⟩) (isV_string _) (isV_string _) hk
  obtain ⟨j1, j2, j3, j4⟩ := i4 hn
  have hf : (M.find key).isSome = true := tells_in hI h (fst_mem.2 ⟨old, List.mem_of_getElem? hi⟩)
  rw [hf] at j1 j3
  refine ⟨j1, j2, i1, by rw [fst_set hi]; exact h.1, by rw [j3, List.length_set]; exact h.2.1, fun k v' => ?_⟩
  rw [j4]
  constructor
  · rintro (⟨rfl, rfl⟩ | ⟨hne, hh⟩)
    · exact ⟨v, rfl, (mem_set_one h.1 hi _ _).2 (.inl ⟨rfl, rfl⟩)⟩
    · obtain ⟨s, rfl, hs⟩ := (h.2.2 _ _).1 hh
      exact ⟨s, rfl, (mem_set_one h.1 hi _ _).2 (.inr ⟨hne, hs⟩)⟩
  · rintro ⟨s, rfl, hs⟩
    rcases (mem_set_one h.1 hi _ _).1 hs with ⟨rfl, rfl⟩ | ⟨hne, hh⟩
    · exact .inl ⟨rfl, rfl⟩
    · exact .inr ⟨hne, (h.2.2 _ _).2 ⟨s, rfl, hh⟩⟩
theorem tells_more {M : SM} {ps : List (ByteArray × ByteArray)} (hI : M.Inv IsV_s) (h : Tells M ps) {key v : ByteArray} (hno : key ∉ ps.map Prod.fst) (hk : key.size < 140737488355328) (hn : M.n < 2000) :
    (M.put key (.string v) (.string ⟨#[]⟩)).1 = false ∧ (M.put key (.string v) (.string ⟨#[]⟩)).2.1 = 0 ∧ (M.put key (.string v) (.string ⟨#[]⟩)).2.2.Inv IsV_s ∧ Tells (M.put key (.string v) (.string ⟨#[]⟩)).2.2 (ps ++ [(key, v)]) := by
  obtain ⟨i1, _, _, i4⟩ := inv_put hI (key := key) (v := .string v) (z := .string ⟨#[]⟩) (isV_string _) (isV_string _) hk
  obtain ⟨j1, j2, j3, j4⟩ := i4 hn
  have hf : (M.find key).isSome = false := tells_out hI h hno
  rw [hf] at j1 j3
  refine ⟨j1, j2, i1, ?_, by rw [j3, List.length_append, List.length_singleton]; simp [h.2.1], fun k v' => ?_⟩
  · rw [List.map_append, List.nodup_append]
    refine ⟨h.1, by simp, fun a ha b hb => ?_⟩
    simp only [List.map_cons, List.map_nil, List.mem_singleton] at hb
    subst hb
    rintro rfl
    exact hno ha
  · rw [j4]
    constructor
    · rintro (⟨rfl, rfl⟩ | ⟨hne, hh⟩)
      · exact ⟨v, rfl, by simp⟩
      · obtain ⟨s, rfl, hs⟩ := (h.2.2 _ _).1 hh
        exact ⟨s, rfl, List.mem_append_left _ hs⟩
    · rintro ⟨s, rfl, hs⟩
      rcases List.mem_append.1 hs with hs | hs
      · exact .inr ⟨fun e => hno (e ▸ fst_mem.2 ⟨s, hs⟩), (h.2.2 _ _).2 ⟨s, rfl, hs⟩⟩
      · simp only [List.mem_singleton, Prod.mk.injEq] at hs
        exact .inl ⟨hs.1, by rw [hs.2]⟩
/-- What Delete does to the pairs. -/
theorem mem_erase_one {ps : List (ByteArray × ByteArray)} (hd : (ps.map Prod.fst).Nodup) {i : Nat} {key old : ByteArray} (hi : ps[i]? = some (key, old)) (k s : ByteArray) : (k, s) ∈ ps.take i ++ ps.drop (i + 1) ↔ k ≠ key ∧ (k, s) ∈ ps := by
  constructor
  · intro h
    refine ⟨?_, ?_⟩
    · rintro rfl
      rcases List.mem_append.1 h with h | h
      · obtain ⟨j, hj⟩ := List.getElem?_of_mem h
        have hj' := (List.getElem?_eq_some_iff.1 hj).1
        rw [List.length_take] at hj'
        rw [List.getElem?_take, if_pos (by omega)] at hj
        have := nodup_one hd hi hj
        omega
      · obtain ⟨j, hj⟩ := List.getElem?_of_mem h
        rw [List.getElem?_drop] at hj
        have := nodup_one hd hi hj
        omega
    · rcases List.mem_append.1 h with h | h
      · exact List.mem_of_mem_take h
      · exact List.mem_of_mem_drop h
  · rintro ⟨hne, h⟩
    obtain ⟨j, hj⟩ := List.getElem?_of_mem h
    rcases Nat.lt_trichotomy j i with hl | rfl | hl
    · exact List.mem_append_left _ (List.mem_of_getElem? (i := j) (by rw [List.getElem?_take, if_pos hl]; exact hj))
    · rw [hi] at hj
      simp only [Option.some.injEq, Prod.mk.injEq] at hj
      exact absurd hj.1.symm hne
    · exact List.mem_append_right _ (List.mem_of_getElem? (i := j - (i + 1)) (by rw [List.getElem?_drop, show i + 1 + (j - (i + 1)) = j by omega]; exact hj))
theorem tells_gone {M : SM} {ps : List (ByteArray × ByteArray)} (hI : M.Inv IsV_s) (h : Tells M ps) {i : Nat} {key old : ByteArray} (hi : ps[i]? = some (key, old)) :
    (M.del key (.string ⟨#[]⟩)).1 = true ∧ (M.del key (.string ⟨#[]⟩)).2.Inv IsV_s ∧ Tells (M.del key (.string ⟨#[]⟩)).2 (ps.take i ++ ps.drop (i + 1)) := by
  obtain ⟨i1, _, _, _, j1, j2, j4⟩ := inv_del hI (key := key) (z := .string ⟨#[]⟩) (isV_string _)
  have hf : (M.find key).isSome = true := tells_in hI h (fst_mem.2 ⟨old, List.mem_of_getElem? hi⟩)
  have hlt : i < ps.length := (List.getElem?_eq_some_iff.1 hi).1
  rw [hf] at j1 j2
  refine ⟨j1, i1, ?_, ?_, fun k v' => ?_⟩
  · have := h.1.sublist (l₁ := (ps.take i ++ ps.drop (i + 1)).map Prod.fst) ?_
    · exact this
    · refine List.Sublist.map _ ?_
      rw [← List.eraseIdx_eq_take_drop_succ]
      exact List.eraseIdx_sublist _ _
  · rw [List.length_append, List.length_take, List.length_drop]
    have := h.2.1
    simp only [if_true] at j2
    omega
  · rw [j4]
    constructor
    · rintro ⟨hne, hh⟩
      obtain ⟨s, rfl, hs⟩ := (h.2.2 _ _).1 hh
      exact ⟨s, rfl, (mem_erase_one h.1 hi _ _).2 ⟨hne, hs⟩⟩
    · rintro ⟨s, rfl, hs⟩
      obtain ⟨hne, hh⟩ := (mem_erase_one h.1 hi _ _).1 hs
      exact ⟨hne, (h.2.2 _ _).2 ⟨s, rfl, hh⟩⟩
theorem tells_keep {M : SM} {ps : List (ByteArray × ByteArray)} (hI : M.Inv IsV_s) (h : Tells M ps) {key : ByteArray} (hno : key ∉ ps.map Prod.fst) :
    (M.del key (.string ⟨#[]⟩)).1 = false ∧ (M.del key (.string ⟨#[]⟩)).2.Inv IsV_s ∧ Tells (M.del key (.string ⟨#[]⟩)).2 ps := by
  obtain ⟨i1, _, _, _, j1, j2, j4⟩ := inv_del hI (key := key) (z := .string ⟨#[]⟩) (isV_string _)
  have hf : (M.find key).isSome = false := tells_out hI h hno
  rw [hf] at j1 j2
  refine ⟨j1, i1, h.1, by have := h.2.1; simp at j2; omega, fun k v' => ?_⟩
  rw [j4, h.2.2]
  constructor
  · exact fun h' => h'.2
  · rintro ⟨s, rfl, hs⟩
    exact ⟨fun e => hno (e ▸ fst_mem.2 ⟨s, hs⟩), s, rfl, hs⟩
end Go.Proofs.YthlghokgknkpaaaDoor

/-
  Rows of texts that the call made: appended to as a step of a region that draws, cut, stored into, and how they lie to a map.
-/
namespace Go.Proofs.YthlghokgknkpaaaDoor
open Go.RowKit Go.Shelf

/-- The row of an append lies in its own block, or in a new one. -/
theorem append_where {P : Program} {w : World} {base : Nat} {t ty e : TypeId} {i : TypeInfo} {z : Value} {size bytes : Nat} (ht : P.underlying t = some (.slice e)) (hi : P.info? e = some i) (hz : i.zero = some z)
    (hsize : i.size = size) (hby : i.bytes = bytes) (hzs : z.cells.size = size) (hsz : 0 < size) {v : Value} {n : Nat} {xs : List Value} (hown : w.ownsRow base e size v n xs)
    {a : Addr} {m c : Nat} {news : List Value} (hl : news.length = m * size) (hnews : ∀ j u, news[j]? = some u → w.cell? (a.add j) = some u) (h1 : ∀ u ∈ news, u.oneCell' = true)
    (h63 : n + m ≤ maxLen) (hbytes : (n + m) * bytes ≤ 140737488355328) {v' : Value} {w' : World} (hr : (Builtin.append_ #[t, t] ty #[v, .slice (some a) m c]).run P w = .ok v' w') :
    v'.ownBlock = v.ownBlock ∨ ∃ k, v'.ownBlock = some k ∧ w.heap.size ≤ k := by
  have hsmall : n + m ≤ 9223372036854775807 := by simp only [maxLen] at h63; omega
  rcases hown.2 with ⟨rfl, rfl⟩ | ⟨g, cap, cur, rfl, hbg, hg, hnc, hcm, hcs, htake⟩
  · have hx : xs = [] := List.eq_nil_of_length_eq_zero (by simpa using hown.1)
    subst hx
    obtain ⟨v2, w2, hr2, ho2, _, _⟩ := run_append_own (P := P) w w.heap.size t ty e i z size bytes ht hi hz hsize hby hzs hsz (.slice none 0 0) 0 [] (World.ownsRow_nil _ _ _ _) a m c news hl hnews h1 h63 hbytes (Nat.le_refl _)
    rw [hr] at hr2
    simp only [Result.ok.injEq] at hr2
    obtain ⟨rfl, rfl⟩ := hr2
    cases hk : v'.ownBlock with
    | none => exact .inl rfl
    | some k => exact .inr ⟨k, rfl, (World.ownsRow.lt ho2 k hk).1⟩
  · subst hsize
    subst hby
    by_cases hroom : n + m ≤ cap
    · have hfit : n * i.size + news.length ≤ cur.size := by rw [hl, hcs, ← Nat.add_mul]; exact Nat.mul_le_mul_right _ hroom
      rw [run_append_room (P := P) w t ty e i ht hi g n cap cur hg a m c news hl hnews h1 hroom hfit] at hr
      simp only [Result.ok.injEq] at hr
      rw [← hr.1]
      exact .inl rfl
    · have holds : ∀ j u, xs[j]? = some u → w.cell? ((⟨g, 0, none⟩ : Addr).add j) = some u := hown.cells (g := g) rfl
      rw [run_append_grow (P := P) w t ty e i z ht hi hz ⟨g, 0, none⟩ n cap xs hown.1 holds a m c news hl hnews (by omega) (by omega) (growslice_fits (by omega) hbytes)] at hr
      simp only [Result.ok.injEq] at hr
      rw [← hr.1]
      exact .inr ⟨_, rfl, Nat.le_refl _⟩

theorem textsV_one (xs : List ByteArray) : ∀ u ∈ textsV xs, u.oneCell' = true := fun u hu => by
  obtain ⟨x, _, rfl⟩ := List.mem_map.1 hu
  rfl
/-- 'append(s, x...)' of texts. -/
theorem run_texts (w : World) (ty : TypeId) (B : Nat) (v x : Value) (xs ys : List ByteArray) (hx : HasT w x ys) (hown : OwnsT w B v xs) (hlen : xs.length ≤ 1099511627776) (hlen2 : ys.length ≤ 1099511627776) (hB : B ≤ w.heap.size) :
    ∃ v' w', (Builtin.append_ #[103, 103] ty #[v, x]).run Tryd.prog w = .ok v' w' ∧ OwnsT w' B v' (xs ++ ys) ∧ w.grownBy w' v.ownBlock ∧ (v'.ownBlock = v.ownBlock ∨ ∃ k, v'.ownBlock = some k ∧ w.heap.size ≤ k) := by
  obtain ⟨i, hi, hz, hsize, hby⟩ := info_parts infoT_s
  obtain ⟨p, c, hv, hc, hnone, hcell⟩ := hx
  cases p with
  | none =>
    obtain rfl := hnone rfl
    have hy : ys = [] := List.eq_nil_of_length_eq_zero (by omega)
    subst hy
    have hrun := run_append_owned_none (P := Tryd.prog) w B 103 ty 9 i 1 Tryd.underlying103 hi v xs.length (textsV xs) hown
    refine ⟨v, w, by rw [hv]; exact hrun, by rw [List.append_nil]; exact hown, ⟨rfl, rfl, rfl, Nat.le_refl _, fun _ _ _ => rfl⟩, .inl rfl⟩
  | some ad =>
    have hl : (textsV ys).length = ys.length * 1 := by simp [textsV]
    have hnews : ∀ j u, (textsV ys)[j]? = some u → w.cell? (ad.add j) = some u := by
      intro j u hj
      have hjl : j < ys.length := by
        have := (List.getElem?_eq_some_iff.1 hj).1
        simpa [textsV] using this
      obtain ⟨b, o', hp, _, hcl⟩ := hcell (by omega)
      obtain rfl := Option.some.inj hp
      rw [Addr.add_lit, hcl j hjl]
      simp [textsV, List.getElem?_eq_getElem hjl] at hj
      subst hj
      simp [List.getElem?_eq_getElem hjl]
    have h63 : xs.length + ys.length ≤ maxLen := by unfold maxLen; omega
    obtain ⟨v', w', hr, ho, hg, _⟩ := run_append_own (P := Tryd.prog) w B 103 ty 9 i (.string ⟨#[]⟩) 1 16 Tryd.underlying103 hi hz hsize hby rfl (by decide) v xs.length (textsV xs) hown ad ys.length c (textsV ys) hl hnews (textsV_one ys) h63 (by omega) hB
    refine ⟨v', w', by rw [hv]; exact hr, ?_, hg, append_where Tryd.underlying103 hi hz hsize hby rfl (by decide) hown hl hnews (textsV_one ys) h63 (by omega) hr⟩
    unfold OwnsT
    rw [List.length_append, show textsV (xs ++ ys) = textsV xs ++ textsV ys by simp [textsV]]
    exact ho
/-- The same as a step of a region that draws its order. -/
theorem step_texts {ops : Array Oper} {o : Oper} {a : Act} {K : Act → World → Prop} {Q : Exit → Act → World → Prop} {E : Prop} (w : World) (hgd : o.guard = none) (s x : Operand)
    (ho : o.op = .call { callee := .builtin .append, args := #[s, x], argTypes := #[103, 103] })
    (B : Nat) (v u : Value) (xs ys : List ByteArray) (hs : a.eval s = v) (hu : a.eval x = u) (hx : HasT w u ys) (hown : OwnsT w B v xs) (hlen : xs.length ≤ 1099511627776) (hlen2 : ys.length ≤ 1099511627776) (hB : B ≤ w.heap.size)
    (h : ∀ v' w', OwnsT w' B v' (xs ++ ys) → w.grownBy w' v.ownBlock → (v'.ownBlock = v.ownBlock ∨ ∃ k, v'.ownBlock = some k ∧ w.heap.size ≤ k) → K (a.put o.dst v') w') :
    if Region.wanted o (yielded ops a.tmps) = true then Oper.wp Tryd.prog o a w K Q else E := by
  have hw : Region.wanted o (yielded ops a.tmps) = true := by simp [Region.wanted, hgd]
  rw [if_pos hw]
  obtain ⟨v', w', hr, h1, h2, h3⟩ := run_texts w o.type B v u xs ys hx hown hlen hlen2 hB
  unfold Oper.wp execOp
  simp only [ho, resolve, invoke, builtin, Sem.run_bind, Sem.run_pure, Result.andThen_ok, List.map_toArray, List.map_cons, List.map_nil, hs, hu, hr]
  exact h v' w' h1 h2 h3

theorem HasT.one {w : World} {k : Nat} {z : ByteArray} {t : TypeId} (h : w.heap[k]? = some (.cells #[.string z] t (0, 0))) : HasT w (.slice (some ⟨k, 0, none⟩) 1 1) [z] := by
  refine ⟨some ⟨k, 0, none⟩, 1, rfl, Nat.le_refl _, (fun h => by cases h), fun _ => ⟨k, 0, rfl, (Array.getElem?_eq_some_iff.1 h).1, fun i hi => ?_⟩⟩
  obtain rfl : i = 0 := by simp at hi; exact hi
  simp [World.cell?, h]
theorem HasT.nil {w : World} (p : Addr) (c : Nat) : HasT w (.slice (some p) 0 c) [] := ⟨some p, c, rfl, Nat.zero_le _, (fun h => by cases h), fun h => by simp at h⟩
theorem HasT.kept {w w' : World} {v : Value} {xs : List ByteArray} {row : Option Nat} (h : HasT w v xs) (hg : w.grownBy w' row) (hne : v.ownBlock = none ∨ v.ownBlock ≠ row) : HasT w' v xs := by
  obtain ⟨p, c, rfl, h1, h2, h3⟩ := h
  refine ⟨p, c, rfl, h1, h2, fun h0 => ?_⟩
  obtain ⟨b, o, rfl, hlt, hc⟩ := h3 h0
  refine ⟨b, o, rfl, Nat.lt_of_lt_of_le hlt hg.size, fun i hi => (World.cell?_of_block (a := ⟨b, o + i, none⟩) (hg.block b hlt ?_)).trans (hc i hi)⟩
  rcases hne with hn | hn
  · cases hn
  · exact hn
theorem HasT.take {w : World} {g n c : Nat} {xs : List ByteArray} (h : HasT w (.slice (some ⟨g, 0, none⟩) n c) xs) {k : Nat} (hk : k ≤ n) : HasT w (.slice (some ⟨g, 0, none⟩) k c) (xs.take k) := by
  obtain ⟨p, c', e, h1, h2, h3⟩ := h
  simp only [Value.slice.injEq] at e
  obtain ⟨rfl, rfl, rfl⟩ := e
  have hl : (xs.take k).length = k := by rw [List.length_take]; omega
  refine ⟨some ⟨g, 0, none⟩, c, by rw [hl], by omega, (fun h => by cases h), fun h0 => ?_⟩
  obtain ⟨b, o, e, hlt, hc⟩ := h3 (by omega)
  simp only [Option.some.injEq, Addr.mk.injEq] at e
  obtain ⟨rfl, rfl, _⟩ := e
  refine ⟨g, 0, rfl, hlt, fun i hi => ?_⟩
  rw [hc i (by omega)]
  simp only [List.getD_eq_getElem?_getD]
  rw [List.getElem?_take, if_pos (by omega)]
theorem HasT.drop {w : World} {g n c : Nat} {xs : List ByteArray} (h : HasT w (.slice (some ⟨g, 0, none⟩) n c) xs) {k : Nat} (hk : k ≤ n) : HasT w (.slice (some ⟨g, k, none⟩) (n - k) (c - k)) (xs.drop k) := by
  obtain ⟨p, c', e, h1, h2, h3⟩ := h
  simp only [Value.slice.injEq] at e
  obtain ⟨rfl, rfl, rfl⟩ := e
  have hl : (xs.drop k).length = xs.length - k := by rw [List.length_drop]
  refine ⟨some ⟨g, k, none⟩, c - k, by rw [hl], by omega, (fun h => by cases h), fun h0 => ?_⟩
  obtain ⟨b, o, e, hlt, hc⟩ := h3 (by omega)
  simp only [Option.some.injEq, Addr.mk.injEq] at e
  obtain ⟨rfl, rfl, _⟩ := e
  refine ⟨g, k, rfl, hlt, fun i hi => ?_⟩
  have := hc (k + i) (by omega)
  rw [Nat.zero_add] at this
  rw [this]
  simp only [List.getD_eq_getElem?_getD, List.getElem?_drop]
theorem OwnsT.has {w : World} {B : Nat} {v : Value} {xs : List ByteArray} (h : OwnsT w B v xs) : HasT w v xs := hasT_owns h
theorem OwnsT.mono {w : World} {B B' : Nat} {v : Value} {xs : List ByteArray} (h : OwnsT w B v xs) (hB : B' ≤ B) : OwnsT w B' v xs := row_mono h hB
theorem OwnsT.off {w w' : World} {B : Nat} {v : Value} {xs : List ByteArray} {S : List Nat} (h : OwnsT w B v xs) (hb : But S w w') (hS : ∀ k ∈ S, v.ownBlock ≠ some k) : OwnsT w' B v xs := by
  refine ⟨h.1, ?_⟩
  rcases h.2 with hn | ⟨g, cap, cur, rfl, hb1, hg, rest⟩
  · exact .inl hn
  · refine .inr ⟨g, cap, cur, rfl, hb1, ?_, rest⟩
    rw [hb.block g (Array.getElem?_eq_some_iff.1 hg).1 (fun hm => hS g hm rfl)]
    exact hg
theorem OwnsT.kept {w w' : World} {B : Nat} {v : Value} {xs : List ByteArray} {row : Option Nat} (h : OwnsT w B v xs) (hg : w.grownBy w' row) (hne : v.ownBlock = none ∨ v.ownBlock ≠ row) : OwnsT w' B v xs := World.ownsRow.kept h hg hne
/-- A row of texts and a block of another type are apart. -/
theorem OwnsT.apart {w : World} {B : Nat} {v : Value} {xs : List ByteArray} (h : OwnsT w B v xs) {k : Nat} {c : Array Value} {e : TypeId} {f : Nat × Nat} (hk : w.heap[k]? = some (.cells c e f)) (he : e ≠ 9) : v.ownBlock ≠ some k := by
  rcases h.2 with ⟨rfl, _⟩ | ⟨g, cap, cur, rfl, _, hg, _⟩
  · intro e; cases e
  · intro e1
    simp only [Value.ownBlock, Option.some.injEq] at e1
    subst e1
    rw [hk] at hg
    simp only [Option.some.injEq, Obj.cells.injEq] at hg
    exact he hg.2.1
theorem OwnsT.lies {w : World} {B : Nat} {v : Value} {xs : List ByteArray} (h : OwnsT w B v xs) {b bw bs : Nat} {M : SM} (hL : Lies 60 56 w b bw bs M) : ∀ k ∈ [b, bw, bs], v.ownBlock ≠ some k := by
  obtain ⟨cw, cs, h1, h2, h3⟩ := hL.row
  intro k hk
  simp only [List.mem_cons, List.not_mem_nil, or_false] at hk
  rcases hk with rfl | rfl | rfl
  · exact h.apart h1 (by decide)
  · rcases h2.2 with ⟨hn, _⟩ | ⟨g, cap, cur, e, _, hg, _⟩
    · cases hn
    · simp only [Value.slice.injEq, Option.some.injEq, Addr.mk.injEq] at e
      obtain ⟨⟨rfl, _, _⟩, _, _⟩ := e
      exact h.apart hg (by decide)
  · rcases h3.2 with ⟨hn, _⟩ | ⟨g, cap, cur, e, _, hg, _⟩
    · cases hn
    · simp only [Value.slice.injEq, Option.some.injEq, Addr.mk.injEq] at e
      obtain ⟨⟨rfl, _, _⟩, _, _⟩ := e
      exact h.apart hg (by decide)
theorem Lies.kept {w w' : World} {B : Nat} {v : Value} {xs : List ByteArray} {b bw bs : Nat} {M : SM} (hL : Lies 60 56 w b bw bs M) (h : OwnsT w B v xs) (hg : w.grownBy w' v.ownBlock) : Lies 60 56 w' b bw bs M := by
  have hl := hL.lt
  have hn := h.lies hL
  exact hL.same (hg.block b hl.1 (fun e => hn b (by simp) e.symm)) (hg.block bw hl.2.1 (fun e => hn bw (by simp) e.symm)) (hg.block bs hl.2.2 (fun e => hn bs (by simp) e.symm))
theorem below_grownT {w0 w w' : World} {B C : Nat} {v : Value} {xs : List ByteArray} (hb : Below B w0 w) (h : OwnsT w C v xs) (hg : w.grownBy w' v.ownBlock) (hB : B ≤ w.heap.size) (hC : B ≤ C) : Below B w0 w' :=
  hb.grown hg hB fun k hk => Nat.le_trans hC (World.ownsRow.lt h k hk).1
/-- A text stored into a row. -/
theorem OwnsT.set {w : World} {B g n c : Nat} {xs : List ByteArray} (h : OwnsT w B (.slice (some ⟨g, 0, none⟩) n c) xs) (i : Nat) (z : ByteArray) : OwnsT (w.setCell ⟨g, i, none⟩ (.string z)) B (.slice (some ⟨g, 0, none⟩) n c) (xs.set i z) := by
  have hn : n = xs.length := by
    rcases h.2 with ⟨e, _⟩ | ⟨g', cap, cur, e, _⟩
    · cases e
    · simp only [Value.slice.injEq] at e
      exact e.2.1
  subst hn
  have := (World.ownsRow.stored h i (.string z)).1
  unfold OwnsT
  rw [List.length_set, show textsV (xs.set i z) = (textsV xs).set i (.string z) by simp [textsV, List.map_set]]
  exact this
end Go.Proofs.YthlghokgknkpaaaDoor
