import Derived.Test.YtnbaoimjcaeeaaaGreatImBTo
import Derived.Test.YtnbaoimjcaeeaaaGreatCmATo
import Derived.ProofKit
import Derived.OpenShut
import Derived.Deep.SlicePairs
import Derived.SizedLaws
import Derived.ChangeSame
/-
  Rows of pairs in memory: read, made by the call, appended to; appends of bytes. (As in stage 7, for seats without maps.)
-/
namespace Go.Proofs.YtnbaoimjcaeeaaaGreat
open Go.RowKit

theorem row_mono {w : World} {B B' : Nat} {e : TypeId} {size n : Nat} {v : Value} {xs : List Value} (h : w.ownsRow B e size v n xs) (hB : B' ≤ B) : w.ownsRow B' e size v n xs := by
  refine ⟨h.1, ?_⟩
  rcases h.2 with hn | ⟨g, cap, cur, rfl, hb1, rest⟩
  · exact .inl hn
  · exact .inr ⟨g, cap, cur, rfl, Nat.le_trans hB hb1, rest⟩

/-- A pair's two cells; a row's cells. -/
def encP (p : ByteArray × ByteArray) : List Value := [.string p.1, .string p.2]
def pairsV (l : List (ByteArray × ByteArray)) : List Value := (l.map encP).flatten
theorem pairsV_nil : pairsV [] = [] := rfl
theorem pairsV_cons (p : ByteArray × ByteArray) (l : List (ByteArray × ByteArray)) : pairsV (p :: l) = .string p.1 :: .string p.2 :: pairsV l := rfl
theorem pairsV_append (l m : List (ByteArray × ByteArray)) : pairsV (l ++ m) = pairsV l ++ pairsV m := by simp [pairsV]
theorem pairsV_length : ∀ l : List (ByteArray × ByteArray), (pairsV l).length = l.length * 2
  | [] => rfl
  | p :: l => by rw [pairsV_cons, List.length_cons, List.length_cons, pairsV_length l, List.length_cons]; omega
theorem pairsV_one : ∀ l : List (ByteArray × ByteArray), ∀ u ∈ pairsV l, u.oneCell' = true
  | [], u, h => by cases h
  | p :: l, u, h => by
    rw [pairsV_cons] at h
    rcases List.mem_cons.1 h with rfl | h
    · rfl
    rcases List.mem_cons.1 h with rfl | h
    · rfl
    · exact pairsV_one l u h
theorem pairsV_key : ∀ {l : List (ByteArray × ByteArray)} {i : Nat}, i < l.length → (pairsV l)[i * 2]? = some (.string (l.getD i default).1)
  | [], i, h => by cases h
  | p :: l, 0, _ => rfl
  | p :: l, i + 1, h => by
    rw [pairsV_cons, show (i + 1) * 2 = i * 2 + 1 + 1 by omega, List.getElem?_cons_succ, List.getElem?_cons_succ, pairsV_key (by simpa using h), List.getD_cons_succ]
theorem pairsV_val : ∀ {l : List (ByteArray × ByteArray)} {i : Nat}, i < l.length → (pairsV l)[i * 2 + 1]? = some (.string (l.getD i default).2)
  | [], i, h => by cases h
  | p :: l, 0, _ => rfl
  | p :: l, i + 1, h => by
    rw [pairsV_cons, show (i + 1) * 2 + 1 = i * 2 + 1 + 1 + 1 by omega, List.getElem?_cons_succ, List.getElem?_cons_succ, pairsV_val (by simpa using h), List.getD_cons_succ]
theorem pairsV_drop (l : List (ByteArray × ByteArray)) : ∀ k, pairsV (l.drop k) = (pairsV l).drop (k * 2) := by
  induction l with
  | nil => intro k; simp [pairsV]
  | cons p l ih =>
    intro k
    cases k with
    | zero => simp
    | succ k => rw [List.drop_succ_cons, ih k, pairsV_cons, show (k + 1) * 2 = k * 2 + 1 + 1 by omega, List.drop_succ_cons, List.drop_succ_cons]
theorem pairsV_take (l : List (ByteArray × ByteArray)) : ∀ k, pairsV (l.take k) = (pairsV l).take (k * 2) := by
  induction l with
  | nil => intro k; simp [pairsV]
  | cons p l ih =>
    intro k
    cases k with
    | zero => simp [pairsV]
    | succ k => rw [List.take_succ_cons, pairsV_cons, ih k, pairsV_cons, show (k + 1) * 2 = k * 2 + 1 + 1 by omega, List.take_succ_cons, List.take_succ_cons]
theorem pgetD {l : List (ByteArray × ByteArray)} {i : Nat} (h : i < l.length) : l.getD i default = l[i] := by
  rw [List.getD_eq_getElem?_getD, List.getElem?_eq_getElem h]
  rfl
theorem pgetD_mem {l : List (ByteArray × ByteArray)} {i : Nat} (h : i < l.length) : l.getD i default ∈ l := by rw [pgetD h]; exact List.getElem_mem h
theorem ptake_snoc {l : List (ByteArray × ByteArray)} {i : Nat} (h : i < l.length) : l.take i ++ [l.getD i default] = l.take (i + 1) := by rw [pgetD h, List.take_succ_eq_append_getElem h]

/-- The value v is a slice that reads as these pairs. -/
def HasP (w : World) (v : Value) (l : List (ByteArray × ByteArray)) : Prop :=
  ∃ p c, v = .slice p l.length c ∧ l.length ≤ c ∧ (p = none → c = 0) ∧
    (0 < l.length → ∃ b o, p = some ⟨b, o, none⟩ ∧ b < w.heap.size ∧ ∀ j u, (pairsV l)[j]? = some u → w.cell? ⟨b, o + j, none⟩ = some u)
theorem HasP.below {w w' : World} {B : Nat} {v : Value} {l : List (ByteArray × ByteArray)} (h : HasP w v l) (hb : Below B w w') (hB : w.heap.size ≤ B) : HasP w' v l := by
  obtain ⟨p, c, rfl, h1, h2, h3⟩ := h
  refine ⟨p, c, rfl, h1, h2, fun h0 => ?_⟩
  obtain ⟨b, o, rfl, hlt, hc⟩ := h3 h0
  exact ⟨b, o, rfl, Nat.lt_of_lt_of_le hlt hb.size, fun j u hj => (hb.cell (p := ⟨b, o + j, none⟩) (by exact Nat.lt_of_lt_of_le hlt hB)).trans (hc j u hj)⟩
theorem HasP.nil0 (w : World) : HasP w (.slice none 0 0) [] := ⟨_, _, rfl, Nat.le_refl _, fun _ => rfl, fun h => by simp at h⟩
/-- The pair at place j. -/
theorem HasP.at {w : World} {p : Option Addr} {n c : Nat} {l : List (ByteArray × ByteArray)} (h : HasP w (.slice p n c) l) {j : Nat} (hj : j < n) :
    ∃ b o, p = some ⟨b, o, none⟩ ∧ b < w.heap.size ∧ n ≤ c ∧ n = l.length ∧ w.cell? ⟨b, o + j * 2, none⟩ = some (.string (l.getD j default).1) ∧ w.cell? ⟨b, o + j * 2 + 1, none⟩ = some (.string (l.getD j default).2) := by
  obtain ⟨p', c', e, h1, _, h3⟩ := h
  simp only [Value.slice.injEq] at e
  obtain ⟨rfl, rfl, rfl⟩ := e
  obtain ⟨b, o, rfl, hlt, hc⟩ := h3 (by omega)
  exact ⟨b, o, rfl, hlt, h1, rfl, hc _ _ (pairsV_key hj), by rw [Nat.add_assoc]; exact hc _ _ (pairsV_val hj)⟩
theorem HasP.len {w : World} {p : Option Addr} {n c : Nat} {l : List (ByteArray × ByteArray)} (h : HasP w (.slice p n c) l) : n = l.length ∧ n ≤ c := by
  obtain ⟨p', c', e, h1, _, _⟩ := h
  simp only [Value.slice.injEq] at e
  obtain ⟨rfl, rfl, rfl⟩ := e
  exact ⟨rfl, h1⟩
/-- 's[lo:lo+m]'. -/
theorem HasP.cut {w : World} {b o n c : Nat} {l : List (ByteArray × ByteArray)} (h : HasP w (.slice (some ⟨b, o, none⟩) n c) l) (lo m : Nat) (hm : lo + m ≤ n) : HasP w (.slice (some ⟨b, o + lo * 2, none⟩) m (c - lo)) ((l.drop lo).take m) := by
  obtain ⟨p, c', e, h1, _, h3⟩ := h
  simp only [Value.slice.injEq] at e
  obtain ⟨rfl, rfl, rfl⟩ := e
  have hl : ((l.drop lo).take m).length = m := by rw [List.length_take, List.length_drop]; omega
  refine ⟨_, _, by rw [hl], by rw [hl]; omega, (fun h => by cases h), fun h0 => ?_⟩
  rw [hl] at h0
  obtain ⟨b', o', e, hlt, hc⟩ := h3 (by omega)
  simp only [Option.some.injEq, Addr.mk.injEq] at e
  obtain ⟨rfl, rfl, _⟩ := e
  refine ⟨b, o + lo * 2, rfl, hlt, fun j u hj => ?_⟩
  rw [pairsV_take, pairsV_drop] at hj
  rw [Nat.add_assoc]
  refine hc _ _ ?_
  rw [List.getElem?_take] at hj
  split at hj
  · rw [List.getElem?_drop] at hj; exact hj
  · cases hj

/-- 'append(s, x...)' of bytes: of what is old only the row's own block may have turned. -/
theorem ap_slice_g {P : Program} {ops : Array Oper} {rest : List Oper} {o : Oper} {a : Act} {Q : Exit → Act → World → Prop} (w : World) (hgd : o.guard = none) (s x : Operand) (t : TypeId)
    (ho : o.op = .call { callee := .builtin .append, args := #[s, x], argTypes := #[t, t] })
    (B : Nat) (e : TypeId) (i : TypeInfo) (ht : P.underlying t = some (.slice e)) (hi : P.info? e = some i) (hz : i.zero = some (.int .u8 0)) (hsize : i.size = 1) (hby : i.bytes = 1)
    (v : Value) (xs ys : List Int) (hs : a.eval s = v) (hx : Has w (a.eval x) ys) (hown : Owns w B e v xs) (hlen : xs.length ≤ 1099511627776) (hlen2 : ys.length ≤ 1099511627776) (hB : B ≤ w.heap.size)
    (h : ∀ v' w', Owns w' B e v' (xs ++ ys) → w.grownBy w' v.ownBlock → wpList P ops Q rest (a.put o.dst v') w') :
    wpList P ops Q (o :: rest) a w := by
  obtain ⟨p, c, hv, hc, hnone, hcell⟩ := hx
  cases p with
  | none =>
    obtain rfl := hnone rfl
    have hy : ys = [] := List.eq_nil_of_length_eq_zero (by omega)
    subst hy
    refine wpList_append_own_none hgd s x t ho B e i 1 ht hi v xs.length (cellsB xs) hs hown (by simpa using hv) ?_
    refine h v w ?_ ⟨rfl, rfl, rfl, Nat.le_refl _, fun _ _ _ => rfl⟩
    simpa using hown
  | some ad =>
    refine wpList_append_own _ hgd s x t ho B e i (.int .u8 0) 1 1 ht hi hz hsize hby rfl (by decide) v xs.length (cellsB xs) hs hown ad ys.length c (cellsB ys) hv (by simp [cellsB]) ?_ (cellsB_one ys) ?_ ?_ hB ?_
    · intro j u hj
      have hjl : j < ys.length := by
        have := (List.getElem?_eq_some_iff.1 hj).1
        simpa [cellsB] using this
      obtain ⟨b, o', hp, _, hcl⟩ := hcell (by omega)
      obtain rfl := Option.some.inj hp
      rw [Addr.add_lit, hcl j hjl]
      simp [cellsB, List.getElem?_eq_getElem hjl] at hj
      subst hj
      simp [List.getElem?_eq_getElem hjl]
    · unfold maxLen; omega
    · omega
    · intro v' w' hown' hgrow _
      refine h v' w' ?_ hgrow
      unfold Owns
      simpa [cellsB] using hown'

/-- Pairs whose bytes are few enough. -/
def FewP (l : List (ByteArray × ByteArray)) : Prop := l.length ≤ 65536 ∧ ∀ p ∈ l, p.1.size ≤ 131072 ∧ p.2.size ≤ 131072
theorem FewP.small {l : List (ByteArray × ByteArray)} (h : FewP l) : SmallP l := fun p hp => by have := h.2 p hp; omega
theorem FewP.take {l : List (ByteArray × ByteArray)} (h : FewP l) (n : Nat) : (pairsB (l.take n)).length ≤ 17179869184 + 1179648 := by
  have h1 := pairsB_length (m := 131072) (l := l.take n) fun p hp => h.2 p (List.mem_of_mem_take hp)
  have h2 : (l.take n).length ≤ 65536 := by rw [List.length_take]; have := h.1; omega
  have h3 := Nat.mul_le_mul_right (2 * 131072 + 18) h2
  omega

theorem frozen7 {W : World} {k : Nat} {c : Array Value} {t : TypeId} (h : W.heap[k]? = some (.cells c t (0, 0))) (j : Nat) : W.frozen? ⟨k, j, none⟩ = false := by simp [World.frozen?, h]

/-- Texts as they may come in. -/
def InP (xs : List (ByteArray × ByteArray)) : Prop := ∀ p ∈ xs, p.1.size ≤ 140737488351232 ∧ p.2.size ≤ 140737488351232
end Go.Proofs.YtnbaoimjcaeeaaaGreat

/-
  From a row's own words to this proof's: bytes, a command and a reply that came in.
-/
namespace Go.Proofs.YtnbaoimjcaeeaaaGreat
open Go.ChangeShapes Go.WideShapes Go.ChangeAt Go.RowKit Go.Deep

theorem pairs_cells {H : Type} {enc : TypeId × Value → H} {P : Program} {w : World} {base : Nat} {spare : Nat → Bool} {held : Bool} {t e : TypeId} {f0 f1 : Field} {fuel : Nat} {a : Option Addr} {n c : Nat} {x : DataW H × List MemPlace}
    (ht : P.underlying t = some (.slice e)) (he : P.underlying e = some (.struct #[f0, f1])) (ce : P.cellsOf e = 2) (o0 : f0.offset = 0) (o1 : f1.offset = 1)
    (c0 : P.cellsOf f0.type = 1) (c1 : P.cellsOf f1.type = 1) (u0 : P.underlying f0.type = some .string) (u1 : P.underlying f1.type = some .string)
    (h : DataW.trod enc P w base spare held fuel t (Value.cells (.slice a n c)).toList = some x) :
    (a = none ∧ n = 0 ∧ c = 0) ∨
    ∃ (a' : Addr) (D : Nat → DataW H) (A : Nat → ByteArray × ByteArray) (sp : List (DataW H)), a = some a' ∧ n ≤ c ∧ c ≤ maxLen ∧ x.1 = .slice ((List.range n).map D) sp ∧
      ∀ i, i < n → D i = .agg [.lit (.string (A i).1.data.toList), .lit (.string (A i).2.data.toList)] ∧
        w.cell? (a'.add (i * 2)) = some (.string (A i).1) ∧ w.cell? (a'.add (i * 2 + 1)) = some (.string (A i).2) := by
  rcases open_slice ht h with ⟨hcs, _⟩ | ⟨a', len, cap, m, k, D, Pl, hcs, hb, hl, hm, hmm, rfl, hx⟩
  · simp [Value.cells] at hcs
    exact .inl ⟨hcs.1, hcs.2.1, hcs.2.2⟩
  · simp [Value.cells] at hcs
    obtain ⟨rfl, rfl, rfl⟩ := hcs
    have hlm : n ≤ m := by rw [hmm]; split <;> omega
    have each : ∀ i, i < n → ∃ A : ByteArray × ByteArray, D i = .agg [.lit (.string A.1.data.toList), .lit (.string A.2.data.toList)] ∧
        w.cell? (a'.add (i * 2)) = some (.string A.1) ∧ w.cell? (a'.add (i * 2 + 1)) = some (.string A.2) := by
      intro i hi
      obtain ⟨cs', h1, h2⟩ := hx i (by omega)
      rw [ce] at h1
      obtain ⟨_, hlen, hcell⟩ := World.cells?_some h1
      obtain ⟨xs, k', hk, hxy, _, hxl, hf⟩ := DataW.trod_struct he h2
      match xs, hxl, cs', hlen with
      | [y0, y1], _, [v0, v1], _ =>
        have g0 := hf 0 f0 rfl
        have g1 := hf 1 f1 rfl
        simp [o0, o1, c0, c1] at g0 g1
        obtain ⟨s0, hs0, rfl, _⟩ := DataW.trod_string u0 g0
        obtain ⟨s1, hs1, rfl, _⟩ := DataW.trod_string u1 g1
        cases hs0; cases hs1
        have e0 := hcell 0 (by omega)
        have e1 := hcell 1 (by omega)
        rw [add_add] at e0 e1
        simp only [Prod.mk.injEq] at hxy
        exact ⟨(s0, s1), by simpa using hxy.1, by simpa using e0, by simpa using e1⟩
    have each' : ∃ A : Nat → ByteArray × ByteArray, ∀ i, i < n → D i = .agg [.lit (.string (A i).1.data.toList), .lit (.string (A i).2.data.toList)] ∧
        w.cell? (a'.add (i * 2)) = some (.string (A i).1) ∧ w.cell? (a'.add (i * 2 + 1)) = some (.string (A i).2) := choose_lt each
    obtain ⟨A, hA⟩ := each'
    exact .inr ⟨a', D, A, _, rfl, hl, hm, rfl, hA⟩

theorem weights_allP {H : Type} {P : Program} {e : TypeId} : ∀ {ds : List (DataW H)} {d : DataW H}, d ∈ ds → ∀ q ∈ d.weights P e, q ∈ DataW.weightsAll P e ds
  | d0 :: ds, d, hd, q, hq => by
    simp only [DataW.weightsAll, List.mem_append]
    rcases List.mem_cons.1 hd with rfl | hd
    · exact .inl hq
    · exact .inr (weights_allP hd q hq)
theorem pairsV_cell {l : List (ByteArray × ByteArray)} {w : World} {b o : Nat} (h : ∀ i, i < l.length → w.cell? ⟨b, o + i * 2, none⟩ = some (.string (l.getD i default).1) ∧ w.cell? ⟨b, o + i * 2 + 1, none⟩ = some (.string (l.getD i default).2)) (j : Nat) (u : Value) (hj : (pairsV l)[j]? = some u) : w.cell? ⟨b, o + j, none⟩ = some u := by
  have hl : j < (pairsV l).length := (List.getElem?_eq_some_iff.1 hj).1
  rw [pairsV_length] at hl
  have hi : j / 2 < l.length := by omega
  rcases Nat.mod_two_eq_zero_or_one j with e | e
  · have ej : j = j / 2 * 2 := by omega
    have hk := pairsV_key hi
    rw [← ej, hj] at hk
    rw [Option.some.inj hk]
    have := (h _ hi).1
    rwa [← ej] at this
  · have ej : j = j / 2 * 2 + 1 := by omega
    have hk := pairsV_val hi
    rw [← ej, hj] at hk
    rw [Option.some.inj hk]
    have := (h _ hi).2
    rwa [Nat.add_assoc, ← ej] at this

theorem pairs_in {H : Type} {enc : TypeId × Value → H} {P : Program} {w : World} {base : Nat} {spare : Nat → Bool} {held : Bool} {t e : TypeId} {f0 f1 : Field} {fuel : Nat} {a : Option Addr} {n c : Nat} {x : DataW H × List MemPlace}
    (ht : P.underlying t = some (.slice e)) (he : P.underlying e = some (.struct #[f0, f1])) (ce : P.cellsOf e = 2) (o0 : f0.offset = 0) (o1 : f1.offset = 1)
    (c0 : P.cellsOf f0.type = 1) (c1 : P.cellsOf f1.type = 1) (u0 : P.underlying f0.type = some .string) (u1 : P.underlying f1.type = some .string)
    (h : DataW.trod enc P w base spare held fuel t (Value.cells (.slice a n c)).toList = some x) (hw : ∀ q ∈ x.1.weights P t, q ≤ reachBytes) :
    ∃ zs : List (ByteArray × ByteArray), HasP w (.slice a n c) zs ∧ InP zs ∧ (n : Int) ≤ 9223372036854775807 := by
  rcases pairs_cells ht he ce o0 o1 c0 c1 u0 u1 h with ⟨rfl, rfl, rfl⟩ | ⟨a', D, A, sp, rfl, hl, hm, hx, hA⟩
  · exact ⟨[], HasP.nil0 w, (fun _ h => by cases h), by omega⟩
  · have hlen : ((List.range n).map A).length = n := by simp
    have hget : ∀ i, i < n → ((List.range n).map A).getD i default = A i := fun i hi => by simp [List.getD_eq_getElem?_getD, hi]
    have hsz : ∀ i, i < n → (A i).1.size ≤ 140737488351232 ∧ (A i).2.size ≤ 140737488351232 := fun i hi => by
      have hin : ∀ q ∈ (D i).weights P e, q ≤ reachBytes := fun q hq => hw q (by
        rw [hx]
        simp only [DataW.weights, ht, List.mem_cons, List.mem_append]
        exact .inr (.inl (weights_allP (List.mem_map.2 ⟨i, List.mem_range.2 hi, rfl⟩) q hq)))
      rw [(hA i hi).1] at hin
      simp [DataW.weights, he, DataW.weightsEach, reachBytes] at hin
      exact hin
    refine ⟨(List.range n).map A, ⟨some a', c, by rw [hlen], by rw [hlen]; exact hl, (fun h => by cases h), fun h0 => ?_⟩, fun p hp => ?_, by unfold maxLen at hm; omega⟩
    · rw [hlen] at h0
      obtain ⟨b, o, s⟩ := a'
      obtain rfl : s = none := by simpa [Addr.add] using World.cell?_spot (hA 0 h0).2.1
      refine ⟨b, o, rfl, World.block_lt_of_cell? w _ (hA 0 h0).2.1, pairsV_cell fun i hi => ?_⟩
      rw [hlen] at hi
      obtain ⟨_, h1, h2⟩ := hA i hi
      rw [hget i hi]
      rw [Go.WideShapes.add_plain] at h1 h2
      exact ⟨h1, h2⟩
    · obtain ⟨i, hi, rfl⟩ := List.mem_map.1 hp
      exact hsz i (List.mem_range.1 hi)

section
variable {H : Type} {enc : TypeId × Value → H} {W : World} {spare : Nat → Bool} {held : Bool} {b0 base fuel : Nat}

theorem bytes_in9 {a : Option Addr} {n c : Nat} {x : DataW H × List MemPlace} (h : DataW.trod enc Tryz.prog W base spare held fuel 22 [.slice a n c] = some x) (hw : ∀ q ∈ x.1.weights Tryz.prog 22, q ≤ reachBytes) :
    ∃ zs : List Int, zs.length = n ∧ Has W (.slice a n c) zs ∧ IsB zs ∧ n ≤ 140737488351232 := by
  rcases open_ints Tryz.underlying22 Tryz.underlying5 (by kernel_rfl) h with ⟨hcs, _⟩ | ⟨a', l, c', zs, hcs, _, hl, hm, hz, hx, hcell, hwz⟩
  · simp only [List.cons.injEq, Value.slice.injEq, and_true] at hcs
    obtain ⟨rfl, rfl, rfl⟩ := hcs
    exact ⟨[], rfl, ⟨none, 0, rfl, Nat.le_refl _, fun _ => rfl, fun h => absurd h (Nat.lt_irrefl 0)⟩, IsB.nil, by omega⟩
  · simp only [List.cons.injEq, Value.slice.injEq, and_true] at hcs
    obtain ⟨rfl, rfl, rfl⟩ := hcs
    have hnz : n ≤ zs.length := by rw [hz]; split <;> omega
    have hlen : (zs.take n).length = n := by rw [List.length_take]; omega
    have hs : n ≤ 140737488351232 := by
      have := hw ((((lits IntKind.u8 (zs.take n)) : List (DataW H)).length + ((lits IntKind.u8 (zs.drop n)) : List (DataW H)).length) * Tryz.prog.bytesOf 5) (by rw [hx]; simp [DataW.weights, Tryz.underlying22])
      rw [show Tryz.prog.bytesOf 5 = 1 by kernel_rfl] at this
      simp only [lits, List.length_map, hlen, reachBytes] at this
      omega
    refine ⟨zs.take n, hlen, ⟨some a', c, by rw [hlen], by rw [hlen]; exact hl, (fun h => by cases h), fun h0 => ?_⟩, fun z hz => ?_, hs⟩
    · rw [hlen] at h0 ⊢
      obtain ⟨b, o, s⟩ := a'
      obtain rfl : s = none := by simpa [Addr.add] using World.cell?_spot (hcell 0 (by omega))
      refine ⟨b, o, rfl, World.block_lt_of_cell? W _ (hcell 0 (by omega)), fun i hi => ?_⟩
      rw [← Go.WideShapes.add_plain, hcell i (by omega)]
      simp [List.getD_eq_getElem?_getD, hi]
    · have := bounds_u8 (hwz z (List.mem_of_mem_take hz))
      omega

/-- What a command that comes in keeps to. -/
def Fits9 (c : Cmd9) : Prop := c.key.size ≤ 140737488351232 ∧ c.old.size ≤ 140737488351232 ∧ c.val.size ≤ 140737488351232 ∧ c.unt.size ≤ 140737488351232 ∧
  (-9223372036854775808 ≤ c.k ∧ c.k ≤ 9223372036854775807) ∧ (-9223372036854775808 ≤ c.s ∧ c.s ≤ 9223372036854775807) ∧ (-9223372036854775808 ≤ c.q ∧ c.q ≤ 9223372036854775807) ∧ (-9223372036854775808 ≤ c.lim ∧ c.lim ≤ 9223372036854775807)

set_option maxRecDepth 100000 in
theorem open_cmd9 {v : Value} {d : DataW H} {p : List MemPlace} (hv : Value.okWide Tryz.prog W .any b0 25 v) (h : DataW.Trod enc Tryz.prog W base spare held 25 v d p) (hw : ∀ q ∈ d.weights Tryz.prog 25, q ≤ reachBytes) :
    ∃ c : Cmd9, v = .agg c.arr ∧ Fits9 c := by
  obtain ⟨cs, rfl, hsz⟩ := okWide_struct Tryz.underlying25 hv
  rw [show Tryz.prog.cellsOf 25 = 8 by kernel_rfl] at hsz
  obtain ⟨fuel, hf⟩ := h
  obtain ⟨xs, k', hk, hxy, _, hxl, hf⟩ := DataW.trod_struct Tryz.underlying25 hf
  match xs, hxl, cs, hsz with
  | [y0, y1, y2, y3, y4, y5, y6, y7], _, ⟨[v0, v1, v2, v3, v4, v5, v6, v7]⟩, _ =>
    have g0 := hf 0 _ rfl
    have g1 := hf 1 _ rfl
    have g2 := hf 2 _ rfl
    have g3 := hf 3 _ rfl
    have g4 := hf 4 _ rfl
    have g5 := hf 5 _ rfl
    have g6 := hf 6 _ rfl
    have g7 := hf 7 _ rfl
    simp [show Tryz.prog.cellsOf 9 = 1 by kernel_rfl, show Tryz.prog.cellsOf 3 = 1 by kernel_rfl, Value.cells] at g0 g1 g2 g3 g4 g5 g6 g7
    simp only [Prod.mk.injEq, List.map_cons, List.map_nil] at hxy
    obtain ⟨rfl, -⟩ := hxy
    simp only [DataW.weights, Tryz.underlying25, DataW.weightsEach, List.map_cons, List.map_nil, List.append_nil, List.mem_append] at hw
    obtain ⟨z0, hz0, rfl, w0⟩ := DataW.trod_int Tryz.underlying3 g0
    obtain ⟨z1, hz1, rfl, w1⟩ := DataW.trod_int Tryz.underlying3 g1
    obtain ⟨z2, hz2, rfl, w2⟩ := DataW.trod_int Tryz.underlying3 g2
    obtain ⟨s3, hs3, rfl, _⟩ := DataW.trod_string Tryz.underlying9 g3
    obtain ⟨s4, hs4, rfl, _⟩ := DataW.trod_string Tryz.underlying9 g4
    obtain ⟨s5, hs5, rfl, _⟩ := DataW.trod_string Tryz.underlying9 g5
    obtain ⟨s6, hs6, rfl, _⟩ := DataW.trod_string Tryz.underlying9 g6
    obtain ⟨z7, hz7, rfl, w7⟩ := DataW.trod_int Tryz.underlying3 g7
    cases hz0; cases hz1; cases hz2; cases hs3; cases hs4; cases hs5; cases hs6; cases hz7
    have q3 := hw s3.data.toList.length (by simp [DataW.weights])
    have q4 := hw s4.data.toList.length (by simp [DataW.weights])
    have q5 := hw s5.data.toList.length (by simp [DataW.weights])
    have q6 := hw s6.data.toList.length (by simp [DataW.weights])
    unfold reachBytes at q3 q4 q5 q6
    rw [Array.length_toList] at q3 q4 q5 q6
    exact ⟨⟨z0, z1, z2, s3, s4, s5, s6, z7⟩, rfl, q3, q4, q5, q6, bounds_i64 w0, bounds_i64 w1, bounds_i64 w2, bounds_i64 w7⟩

/-- A reply: its pairs lie in a slice. -/
structure Rep9 where
  err : Int
  found : Bool
  val : ByteArray
  ses : Int
  l : List (ByteArray × ByteArray)
/-- Are two replies alike in all fields? -/
def sameR9 (r s : Rep9) : Bool := decide (r.err = s.err) && decide (r.found = s.found) && decide (r.val = s.val) && decide (r.ses = s.ses) && decide (r.l = s.l)
theorem sameR9_self (r : Rep9) : sameR9 r r = true := by simp [sameR9]
theorem sameR9_iff (r s : Rep9) : sameR9 r s = true ↔ r = s := by
  obtain ⟨e1, f1, v1, s1, l1⟩ := r
  obtain ⟨e2, f2, v2, s2, l2⟩ := s
  simp [sameR9, and_assoc]
theorem sameR9_comm (r s : Rep9) : sameR9 r s = sameR9 s r := by
  rw [Bool.eq_iff_iff, sameR9_iff, sameR9_iff]
  exact ⟨fun h => h.symm, fun h => h.symm⟩
def Rep9.arr (r : Rep9) (v : Value) : Array Value := #[.int .i64 r.err, .bool r.found, .string r.val, .int .i64 r.ses, v]
def FitsR9 (W : World) (r : Rep9) (v : Value) : Prop := HasP W v r.l ∧ InP r.l ∧ (r.l.length : Int) ≤ 9223372036854775807 ∧ r.val.size ≤ 140737488351232 ∧
  (-9223372036854775808 ≤ r.err ∧ r.err ≤ 9223372036854775807) ∧ (-9223372036854775808 ≤ r.ses ∧ r.ses ≤ 9223372036854775807)

end
end Go.Proofs.YtnbaoimjcaeeaaaGreat
