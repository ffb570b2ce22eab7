/-
  Rows of pairs in memory: read, made by the call, appended to; appends of bytes. (As in stage 7, for seats without maps.)
-/
import Derived.Test.YtnbaoimjcaeeaaaImB
import Derived.Test.YtnbaoimjcaeeaaaRef8
namespace Go.Proofs.Ytnbaoimjcaeeaaa
open Go.RowKit

theorem row_mono {w : World} {B B' : Nat} {e : TypeId} {size n : Nat} {v : Value} {xs : List Value} (h : w.ownsRow B e size v n xs) (hB : B' ≤ B) : w.ownsRow B' e size v n xs := by
  refine ⟨h.1, ?_⟩
  rcases h.2 with hn | ⟨g, cap, cur, rfl, hb1, rest⟩
  · exact .inl hn
  · exact .inr ⟨g, cap, cur, rfl, Nat.le_trans hB hb1, rest⟩

/-- A pair's two cells; a row's cells. -/
def encP (p : ByteArray × ByteArray) : List Value := [.string p.1, .string p.2]
def pairsV (l : List (ByteArray × ByteArray)) : List Value := (l.map encP).flatten
theorem pairsV_nil : pairsV [] = [] := rfl
theorem pairsV_cons (p : ByteArray × ByteArray) (l : List (ByteArray × ByteArray)) : pairsV (p :: l) = .string p.1 :: .string p.2 :: pairsV l := rfl
theorem pairsV_append (l m : List (ByteArray × ByteArray)) : pairsV (l ++ m) = pairsV l ++ pairsV m := by simp [pairsV]
theorem pairsV_length : ∀ l : List (ByteArray × ByteArray), (pairsV l).length = l.length * 2
  | [] => rfl
  | p :: l => by rw [pairsV_cons, List.length_cons, List.length_cons, pairsV_length l, List.length_cons]; omega
theorem pairsV_one : ∀ l : List (ByteArray × ByteArray), ∀ u ∈ pairsV l, u.oneCell' = true
  | [], u, h => by cases h
  | p :: l, u, h => by
    rw [pairsV_cons] at h
    rcases List.mem_cons.1 h with rfl | h
    · rfl
    rcases List.mem_cons.1 h with rfl | h
    · rfl
    · exact pairsV_one l u h
theorem pairsV_key : ∀ {l : List (ByteArray × ByteArray)} {i : Nat}, i < l.length → (pairsV l)[i * 2]? = some (.string (l.getD i default).1)
  | [], i, h => by cases h
  | p :: l, 0, _ => rfl
  | p :: l, i + 1, h => by
    rw [pairsV_cons, show (i + 1) * 2 = i * 2 + 1 + 1 by omega, List.getElem?_cons_succ, List.getElem?_cons_succ, pairsV_key (by simpa using h), List.getD_cons_succ]
theorem pairsV_val : ∀ {l : List (ByteArray × ByteArray)} {i : Nat}, i < l.length → (pairsV l)[i * 2 + 1]? = some (.string (l.getD i default).2)
  | [], i, h => by cases h
  | p :: l, 0, _ => rfl
  | p :: l, i + 1, h => by
    rw [pairsV_cons, show (i + 1) * 2 + 1 = i * 2 + 1 + 1 + 1 by omega, List.getElem?_cons_succ, List.getElem?_cons_succ, pairsV_val (by simpa using h), List.getD_cons_succ]
theorem pairsV_drop (l : List (ByteArray × ByteArray)) : ∀ k, pairsV (l.drop k) = (pairsV l).drop (k * 2) := by
  induction l with
  | nil => intro k; simp [pairsV]
  | cons p l ih =>
    intro k
    cases k with
    | zero => simp
    | succ k => rw [List.drop_succ_cons, ih k, pairsV_cons, show (k + 1) * 2 = k * 2 + 1 + 1 by omega, List.drop_succ_cons, List.drop_succ_cons]
theorem pairsV_take (l : List (ByteArray × ByteArray)) : ∀ k, pairsV (l.take k) = (pairsV l).take (k * 2) := by
  induction l with
  | nil => intro k; simp [pairsV]
  | cons p l ih =>
    intro k
    cases k with
    | zero => simp [pairsV]
    | succ k => rw [List.take_succ_cons, pairsV_cons, ih k, pairsV_cons, show (k + 1) * 2 = k * 2 + 1 + 1 by omega, List.take_succ_cons, List.take_succ_cons]
theorem pgetD {l : List (ByteArray × ByteArray)} {i : Nat} (h : i < l.length) : l.getD i default = l[i] := by
  rw [List.getD_eq_getElem?_getD, List.getElem?_eq_getElem h]
  rfl
theorem pgetD_mem {l : List (ByteArray × ByteArray)} {i : Nat} (h : i < l.length) : l.getD i default ∈ l := by rw [pgetD h]; exact List.getElem_mem h
theorem ptake_snoc {l : List (ByteArray × ByteArray)} {i : Nat} (h : i < l.length) : l.take i ++ [l.getD i default] = l.take (i + 1) := by rw [pgetD h, List.take_succ_eq_append_getElem h]

/-- The value v is a slice that reads as these pairs. -/
def HasP (w : World) (v : Value) (l : List (ByteArray × ByteArray)) : Prop :=
  ∃ p c, v = .slice p l.length c ∧ l.length ≤ c ∧ (p = none → c = 0) ∧
    (0 < l.length → ∃ b o, p = some ⟨b, o, none⟩ ∧ b < w.heap.size ∧ ∀ j u, (pairsV l)[j]? = some u → w.cell? ⟨b, o + j, none⟩ = some u)
theorem HasP.below {w w' : World} {B : Nat} {v : Value} {l : List (ByteArray × ByteArray)} (h : HasP w v l) (hb : Below B w w') (hB : w.heap.size ≤ B) : HasP w' v l := by
  obtain ⟨p, c, rfl, h1, h2, h3⟩ := h
  refine ⟨p, c, rfl, h1, h2, fun h0 => ?_⟩
  obtain ⟨b, o, rfl, hlt, hc⟩ := h3 h0
  exact ⟨b, o, rfl, Nat.lt_of_lt_of_le hlt hb.size, fun j u hj => (hb.cell (p := ⟨b, o + j, none⟩) (by exact Nat.lt_of_lt_of_le hlt hB)).trans (hc j u hj)⟩
theorem HasP.nil0 (w : World) : HasP w (.slice none 0 0) [] := ⟨_, _, rfl, Nat.le_refl _, fun _ => rfl, fun h => by simp at h⟩
/-- The pair at place j. -/
theorem HasP.at {w : World} {p : Option Addr} {n c : Nat} {l : List (ByteArray × ByteArray)} (h : HasP w (.slice p n c) l) {j : Nat} (hj : j < n) :
    ∃ b o, p = some ⟨b, o, none⟩ ∧ b < w.heap.size ∧ n ≤ c ∧ n = l.length ∧ w.cell? ⟨b, o + j * 2, none⟩ = some (.string (l.getD j default).1) ∧ w.cell? ⟨b, o + j * 2 + 1, none⟩ = some (.string (l.getD j default).2) := by
  obtain ⟨p', c', e, h1, _, h3⟩ := h
  simp only [Value.slice.injEq] at e
  obtain ⟨rfl, rfl, rfl⟩ := e
  obtain ⟨b, o, rfl, hlt, hc⟩ := h3 (by omega)
  exact ⟨b, o, rfl, hlt, h1, rfl, hc _ _ (pairsV_key hj), by rw [Nat.add_assoc]; exact hc _ _ (pairsV_val hj)⟩
theorem HasP.len {w : World} {p : Option Addr} {n c : Nat} {l : List (ByteArray × ByteArray)} (h : HasP w (.slice p n c) l) : n = l.length ∧ n ≤ c := by
  obtain ⟨p', c', e, h1, _, _⟩ := h
  simp only [Value.slice.injEq] at e
  obtain ⟨rfl, rfl, rfl⟩ := e
  exact ⟨rfl, h1⟩
/-- 's[lo:lo+m]'. -/
theorem HasP.cut {w : World} {b o n c : Nat} {l : List (ByteArray × ByteArray)} (h : HasP w (.slice (some ⟨b, o, none⟩) n c) l) (lo m : Nat) (hm : lo + m ≤ n) : HasP w (.slice (some ⟨b, o + lo * 2, none⟩) m (c - lo)) ((l.drop lo).take m) := by
  obtain ⟨p, c', e, h1, _, h3⟩ := h
  simp only [Value.slice.injEq] at e
  obtain ⟨rfl, rfl, rfl⟩ := e
  have hl : ((l.drop lo).take m).length = m := by rw [List.length_take, List.length_drop]; omega
  refine ⟨_, _, by rw [hl], by rw [hl]; omega, (fun h => by cases h), fun h0 => ?_⟩
  rw [hl] at h0
  obtain ⟨b', o', e, hlt, hc⟩ := h3 (by omega)
  simp only [Option.some.injEq, Addr.mk.injEq] at e
  obtain ⟨rfl, rfl, _⟩ := e
  refine ⟨b, o + lo * 2, rfl, hlt, fun j u hj => ?_⟩
  rw [pairsV_take, pairsV_drop] at hj
  rw [Nat.add_assoc]
  refine hc _ _ ?_
  rw [List.getElem?_take] at hj
  split at hj
  · rw [List.getElem?_drop] at hj; exact hj
  · cases hj

/-- 'append(s, x...)' of bytes: of what is old only the row's own block may have turned. -/
theorem ap_slice_g {P : Program} {ops : Array Oper} {rest : List Oper} {o : Oper} {a : Act} {Q : Exit → Act → World → Prop} (w : World) (hgd : o.guard = none) (s x : Operand) (t : TypeId)
    (ho : o.op = .call { callee := .builtin .append, args := #[s, x], argTypes := #[t, t] })
    (B : Nat) (e : TypeId) (i : TypeInfo) (ht : P.underlying t = some (.slice e)) (hi : P.info? e = some i) (hz : i.zero = some (.int .u8 0)) (hsize : i.size = 1) (hby : i.bytes = 1)
    (v : Value) (xs ys : List Int) (hs : a.eval s = v) (hx : Has w (a.eval x) ys) (hown : Owns w B e v xs) (hlen : xs.length ≤ 1099511627776) (hlen2 : ys.length ≤ 1099511627776) (hB : B ≤ w.heap.size)
    (h : ∀ v' w', Owns w' B e v' (xs ++ ys) → w.grownBy w' v.ownBlock → wpList P ops Q rest (a.put o.dst v') w') :
    wpList P ops Q (o :: rest) a w := by
  obtain ⟨p, c, hv, hc, hnone, hcell⟩ := hx
  cases p with
  | none =>
    obtain rfl := hnone rfl
    have hy : ys = [] := List.eq_nil_of_length_eq_zero (by omega)
    subst hy
    refine wpList_append_own_none hgd s x t ho B e i 1 ht hi v xs.length (cellsB xs) hs hown (by simpa using hv) ?_
    refine h v w ?_ ⟨rfl, rfl, rfl, Nat.le_refl _, fun _ _ _ => rfl⟩
    simpa using hown
  | some ad =>
    refine wpList_append_own _ hgd s x t ho B e i (.int .u8 0) 1 1 ht hi hz hsize hby rfl (by decide) v xs.length (cellsB xs) hs hown ad ys.length c (cellsB ys) hv (by simp [cellsB]) ?_ (cellsB_one ys) ?_ ?_ hB ?_
    · intro j u hj
      have hjl : j < ys.length := by
        have := (List.getElem?_eq_some_iff.1 hj).1
        simpa [cellsB] using this
      obtain ⟨b, o', hp, _, hcl⟩ := hcell (by omega)
      obtain rfl := Option.some.inj hp
      rw [Addr.add_lit, hcl j hjl]
      simp [cellsB, List.getElem?_eq_getElem hjl] at hj
      subst hj
      simp [List.getElem?_eq_getElem hjl]
    · unfold maxLen; omega
    · omega
    · intro v' w' hown' hgrow _
      refine h v' w' ?_ hgrow
      unfold Owns
      simpa [cellsB] using hown'

/-- Pairs whose bytes are few enough. -/
def FewP (l : List (ByteArray × ByteArray)) : Prop := l.length ≤ 65536 ∧ ∀ p ∈ l, p.1.size ≤ 131072 ∧ p.2.size ≤ 131072
theorem FewP.small {l : List (ByteArray × ByteArray)} (h : FewP l) : SmallP l := fun p hp => by have := h.2 p hp; omega
theorem FewP.take {l : List (ByteArray × ByteArray)} (h : FewP l) (n : Nat) : (pairsB (l.take n)).length ≤ 17179869184 + 1179648 := by
  have h1 := pairsB_length (m := 131072) (l := l.take n) fun p hp => h.2 p (List.mem_of_mem_take hp)
  have h2 : (l.take n).length ≤ 65536 := by rw [List.length_take]; have := h.1; omega
  have h3 := Nat.mul_le_mul_right (2 * 131072 + 18) h2
  omega

theorem frozen7 {W : World} {k : Nat} {c : Array Value} {t : TypeId} (h : W.heap[k]? = some (.cells c t (0, 0))) (j : Nat) : W.frozen? ⟨k, j, none⟩ = false := by simp [World.frozen?, h]

/-- Texts as they may come in. -/
def InP (xs : List (ByteArray × ByteArray)) : Prop := ∀ p ∈ xs, p.1.size ≤ 140737488351232 ∧ p.2.size ≤ 140737488351232
end Go.Proofs.Ytnbaoimjcaeeaaa
