import Derived.WalkKit
import Derived.ProofKit
import Derived.Lib.BitFns
import Derived.Lib.AppendStr
import Derived.Laws.AppendOwnNone
import Derived.Laws.BytesArg
namespace Go.Proofs.YthlelcmifolnfaaGreatDoor
open Go.RowKit
def cellsB (xs : List Int) : List Value := xs.map (Value.int .u8)

def Has (w : World) (v : Value) (xs : List Int) : Prop :=
  ∃ p c, v = .slice p xs.length c ∧ xs.length ≤ c ∧ (p = none → c = 0) ∧
    (0 < xs.length → ∃ b o, p = some ⟨b, o, none⟩ ∧ b < w.heap.size ∧ ∀ i, i < xs.length → w.cell? ⟨b, o + i, none⟩ = some (.int .u8 (xs.getD i 0)))

def Owns (w : World) (B : Nat) (e : TypeId) (v : Value) (xs : List Int) : Prop := w.ownsRow B e 1 v xs.length (cellsB xs)

theorem cellsB_one (xs : List Int) : ∀ u ∈ cellsB xs, u.oneCell' = true := ints_oneCell .u8 xs

theorem Owns.has {w : World} {B : Nat} {e : TypeId} {v : Value} {xs : List Int} (h : Owns w B e v xs) : Has w v xs := by
  rcases h.2 with ⟨rfl, hn⟩ | ⟨g, cap, cur, rfl, hB, hg, hnc, _, _, _⟩
  · exact ⟨none, 0, by rw [hn], by omega, fun _ => rfl, fun h0 => by omega⟩
  · refine ⟨some ⟨g, 0, none⟩, cap, rfl, hnc, (fun h0 => by cases h0), fun _ => ⟨g, 0, rfl, (Array.getElem?_eq_some_iff.1 hg).1, fun i hi => ?_⟩⟩
    have hc := World.ownsRow.cells h (g := g) rfl i (.int .u8 (xs.getD i 0)) (by simp [cellsB, List.getElem?_eq_getElem hi])
    rw [Addr.add_lit] at hc
    exact hc

theorem Owns.nil (w : World) (B : Nat) (e : TypeId) : Owns w B e (.slice none 0 0) [] := World.ownsRow_nil w B e 1

theorem Has.nil (w : World) : Has w (.slice none 0 0) [] := ⟨none, 0, rfl, Nat.le_refl _, fun _ => rfl, fun h => absurd h (Nat.lt_irrefl 0)⟩

theorem Has.below {w w' : World} {B : Nat} {v : Value} {xs : List Int} (h : Has w v xs) (hb : Below B w w') (hB : w.heap.size ≤ B) : Has w' v xs := by
  obtain ⟨p, c, rfl, h1, h2, h3⟩ := h
  refine ⟨p, c, rfl, h1, h2, fun h0 => ?_⟩
  obtain ⟨b, o, rfl, hlt, hc⟩ := h3 h0
  exact ⟨b, o, rfl, Nat.lt_of_lt_of_le hlt hb.size, fun i hi => (hb.cell (p := ⟨b, o + i, none⟩) (by exact Nat.lt_of_lt_of_le hlt hB)).trans (hc i hi)⟩

theorem Owns.below {w w' : World} {B B' : Nat} {e : TypeId} {v : Value} {xs : List Int} (h : Owns w B e v xs) (hb : Below B' w w') (hB : w.heap.size ≤ B') : Owns w' B e v xs := by
  refine ⟨h.1, ?_⟩
  rcases h.2 with hn | ⟨g, cap, cur, rfl, hb1, hg, rest⟩
  · exact .inl hn
  · refine .inr ⟨g, cap, cur, rfl, hb1, ?_, rest⟩
    rw [hb.block g (Nat.lt_of_lt_of_le (Array.getElem?_eq_some_iff.1 hg).1 hB)]
    exact hg

theorem Owns.mono {w : World} {B B' : Nat} {e : TypeId} {v : Value} {xs : List Int} (h : Owns w B e v xs) (hB : B' ≤ B) : Owns w B' e v xs := by
  refine ⟨h.1, ?_⟩
  rcases h.2 with hn | ⟨g, cap, cur, rfl, hb1, rest⟩
  · exact .inl hn
  · exact .inr ⟨g, cap, cur, rfl, Nat.le_trans hB hb1, rest⟩

theorem below_grown {w w' : World} {B : Nat} {e : TypeId} {v : Value} {xs : List Int} (h : Owns w B e v xs) (hB : B ≤ w.heap.size) (hg : w.grownBy w' v.ownBlock) : Below B w w' :=
  (Below.refl _ _).grown hg hB fun k hk => (World.ownsRow.lt h k hk).1

theorem ap_one {P : Program} {ops : Array Oper} {rest : List Oper} {o : Oper} {a : Act} {Q : Exit → Act → World → Prop} (w : World) (hgd : o.guard = none) (s x : Operand) (t : TypeId)
    (ho : o.op = .call { callee := .builtin .append, args := #[s, x], argTypes := #[t, t] })
    (B : Nat) (e : TypeId) (i : TypeInfo) (ht : P.underlying t = some (.slice e)) (hi : P.info? e = some i) (hz : i.zero = some (.int .u8 0)) (hsize : i.size = 1) (hby : i.bytes = 1)
    (v : Value) (xs : List Int) (z : Int) (hs : a.eval s = v) (hx : a.eval x = .slice (some ⟨w.heap.size, 0, none⟩) 1 1) (hown : Owns w B e v xs) (hlen : xs.length ≤ 1099511627776) (hB : B ≤ w.heap.size)
    (h : ∀ v' w', Owns w' B e v' (xs ++ [z]) → Below B w w' → wpList P ops Q rest (a.put o.dst v') w') :
    wpList P ops Q (o :: rest) a (w.alloc (.cells #[.int .u8 z] e)) := by
  refine wpList_append_own _ hgd s x t ho B e i (.int .u8 0) 1 1 ht hi hz hsize hby rfl (by decide) v xs.length (cellsB xs) hs (World.ownsRow.alloc hown _) ⟨w.heap.size, 0, none⟩ 1 1 [.int .u8 z] hx rfl ?_ ?_ ?_ ?_ ?_ ?_
  · intro j u hj
    match j, hj with
    | 0, hj => simp at hj; subst hj; simp [Addr.add]
  · intro u hu; simp at hu; subst hu; rfl
  · unfold maxLen; omega
  · omega
  · simp; omega
  · intro v' w' hown' hgrow _
    refine h v' w' ?_ ?_
    · unfold Owns
      simpa [cellsB] using hown'
    · exact ((Below.refl B w).alloc hB _).trans ((Below.refl _ _).grown hgrow (by simp; omega) fun k hk => (World.ownsRow.lt hown k hk).1)

theorem ap_slice {P : Program} {ops : Array Oper} {rest : List Oper} {o : Oper} {a : Act} {Q : Exit → Act → World → Prop} (w : World) (hgd : o.guard = none) (s x : Operand) (t : TypeId)
    (ho : o.op = .call { callee := .builtin .append, args := #[s, x], argTypes := #[t, t] })
    (B : Nat) (e : TypeId) (i : TypeInfo) (ht : P.underlying t = some (.slice e)) (hi : P.info? e = some i) (hz : i.zero = some (.int .u8 0)) (hsize : i.size = 1) (hby : i.bytes = 1)
    (v : Value) (xs ys : List Int) (hs : a.eval s = v) (hx : Has w (a.eval x) ys) (hown : Owns w B e v xs) (hlen : xs.length ≤ 1099511627776) (hlen2 : ys.length ≤ 1099511627776) (hB : B ≤ w.heap.size)
    (h : ∀ v' w', Owns w' B e v' (xs ++ ys) → Below B w w' → wpList P ops Q rest (a.put o.dst v') w') :
    wpList P ops Q (o :: rest) a w := by
  obtain ⟨p, c, hv, hc, hnone, hcell⟩ := hx
  cases p with
  | none =>
    obtain rfl := hnone rfl
    have hy : ys = [] := List.eq_nil_of_length_eq_zero (by omega)
    subst hy
    refine wpList_append_own_none hgd s x t ho B e i 1 ht hi v xs.length (cellsB xs) hs hown (by simpa using hv) ?_
    refine h v w ?_ (Below.refl _ _)
    simpa using hown
  | some ad =>
    refine wpList_append_own _ hgd s x t ho B e i (.int .u8 0) 1 1 ht hi hz hsize hby rfl (by decide) v xs.length (cellsB xs) hs hown ad ys.length c (cellsB ys) hv (by simp [cellsB]) ?_ (cellsB_one ys) ?_ ?_ hB ?_
    · intro j u hj
      have hjl : j < ys.length := by
        have := (List.getElem?_eq_some_iff.1 hj).1
        simpa [cellsB] using this
      obtain ⟨b, o', hp, _, hcl⟩ := hcell (by omega)
      obtain rfl := Option.some.inj hp
      rw [Addr.add_lit, hcl j hjl]
      simp [cellsB, List.getElem?_eq_getElem hjl] at hj
      subst hj
      simp [List.getElem?_eq_getElem hjl]
    · unfold maxLen; omega
    · omega
    · intro v' w' hown' hgrow _
      refine h v' w' ?_ (below_grown hown hB hgrow)
      unfold Owns
      simpa [cellsB] using hown'

theorem step_slice {P : Program} {ops : Array Oper} {o : Oper} {a : Act} {K : Act → World → Prop} {Q : Exit → Act → World → Prop} {E : Prop} (w : World) (hgd : o.guard = none) (s x : Operand) (t : TypeId)
    (ho : o.op = .call { callee := .builtin .append, args := #[s, x], argTypes := #[t, t] })
    (B : Nat) (e : TypeId) (i : TypeInfo) (ht : P.underlying t = some (.slice e)) (hi : P.info? e = some i) (hz : i.zero = some (.int .u8 0)) (hsize : i.size = 1) (hby : i.bytes = 1)
    (v : Value) (xs ys : List Int) (hs : a.eval s = v) (hx : Has w (a.eval x) ys) (hown : Owns w B e v xs) (hlen : xs.length ≤ 1099511627776) (hlen2 : ys.length ≤ 1099511627776) (hB : B ≤ w.heap.size)
    (h : ∀ v' w', Owns w' B e v' (xs ++ ys) → Below B w w' → K (a.put o.dst v') w') :
    if Region.wanted o (yielded ops a.tmps) = true then Oper.wp P o a w K Q else E := by
  have hw : Region.wanted o (yielded ops a.tmps) = true := by simp [Region.wanted, hgd]
  rw [if_pos hw]
  obtain ⟨p, c, hv, hc, hnone, hcell⟩ := hx
  cases p with
  | none =>
    obtain rfl := hnone rfl
    have hy : ys = [] := List.eq_nil_of_length_eq_zero (by omega)
    subst hy
    have hrun := run_append_owned_none (P := P) w B t o.type e i 1 ht hi v xs.length (cellsB xs) hown
    have hv' : a.eval x = .slice none 0 0 := by simpa using hv
    unfold Oper.wp
    simp [execOp, ho, resolve, invoke, builtin, hs, hv', hrun, Result.andThen]
    exact h v w (by simpa using hown) (Below.refl _ _)
  | some ad =>
    refine wp_append_own w s x t ho B e i (.int .u8 0) 1 1 ht hi hz hsize hby rfl (by decide) v xs.length (cellsB xs) hs hown ad ys.length c (cellsB ys) hv (by simp [cellsB]) ?_ (cellsB_one ys) ?_ ?_ hB ?_
    · intro j u hj
      have hjl : j < ys.length := by
        have := (List.getElem?_eq_some_iff.1 hj).1
        simpa [cellsB] using this
      obtain ⟨b, o', hp, _, hcl⟩ := hcell (by omega)
      obtain rfl := Option.some.inj hp
      rw [Addr.add_lit, hcl j hjl]
      simp [cellsB, List.getElem?_eq_getElem hjl] at hj
      subst hj
      simp [List.getElem?_eq_getElem hjl]
    · unfold maxLen; omega
    · omega
    · intro v' w' hown' hgrow _
      refine h v' w' ?_ (below_grown hown hB hgrow)
      unfold Owns
      simpa [cellsB] using hown'

theorem ap_text {P : Program} {ops : Array Oper} {rest : List Oper} {o : Oper} {a : Act} {Q : Exit → Act → World → Prop} (w : World) (hgd : o.guard = none) (s x : Operand) (t u : TypeId)
    (ho : o.op = .call { callee := .builtin .append, args := #[s, x], argTypes := #[t, u] })
    (B : Nat) (e : TypeId) (i : TypeInfo) (ht : P.underlying t = some (.slice e)) (hu : P.underlying u = some .string) (hi : P.info? e = some i) (hz : i.zero = some (.int .u8 0)) (hsize : i.size = 1) (hby : i.bytes = 1)
    (v : Value) (xs : List Int) (str : ByteArray) (hs : a.eval s = v) (hx : a.eval x = .string str) (hown : Owns w B e v xs) (hlen : xs.length ≤ 1099511627776) (hlen2 : str.size ≤ 1099511627776) (hB : B ≤ w.heap.size)
    (h : ∀ v' w', Owns w' B e v' (xs ++ str.data.toList.map fun b => (b.toNat : Int)) → Below B w w' → wpList P ops Q rest (a.put o.dst v') w') :
    wpList P ops Q (o :: rest) a w := by
  refine Lib.wpList_append_own_string _ hgd s x t u ho B e i ht hu hi hz hsize hby v xs.length (cellsB xs) hs hown str hx (by unfold maxLen; omega) (by omega) hB ?_
  intro v' w' hown' hgrow _
  refine h v' w' ?_ (below_grown hown hB hgrow)
  unfold Owns
  have e1 : (xs ++ str.data.toList.map fun b => (b.toNat : Int)).length = xs.length + str.size := by
    rw [List.length_append, List.length_map, Array.length_toList]; rfl
  have e2 : cellsB (xs ++ str.data.toList.map fun b => (b.toNat : Int)) = cellsB xs ++ Lib.strCells str := by simp [cellsB, Lib.strCells]
  rw [e1, e2]
  exact hown'

theorem Has.conv {P : Program} {w : World} {v : Value} {xs : List Int} (h : Has w v xs) (src e dst : TypeId) (hs : P.underlying src = some (.slice e)) (he : P.underlying e = some (.int .u8)) (hd : P.underlying dst = some .string) :
    (convert src dst v).run P w = .ok (.string (strOfNums xs)) w := by
  obtain ⟨p, c, rfl, hc, hnone, hcell⟩ := h
  rcases Nat.eq_zero_or_pos xs.length with hn | hn
  · obtain rfl : xs = [] := List.eq_nil_of_length_eq_zero hn
    cases p with
    | none => exact run_convert_bytes_nil w src e hs he _ _ dst hd
    | some a =>
      rw [run_convert_bytes_string w src dst e _ _ c hs he hd]
      simp [Conv.bytesToString, loadCells]
      rfl
  · obtain ⟨b, o, rfl, _, hc⟩ := hcell hn
    exact run_convert_bytes_arg w src e hs he b o _ c xs rfl hc dst hd

theorem Has.lit (w : World) (xs : List Int) (e : TypeId) (fr : Nat × Nat := (0, 0)) : Has (w.alloc (.cells (xs.map (Value.int .u8)).toArray e fr)) (.slice (some ⟨w.heap.size, 0, none⟩) xs.length xs.length) xs := by
  refine ⟨_, _, rfl, Nat.le_refl _, (fun h => by cases h), fun _ => ⟨w.heap.size, 0, rfl, by simp, fun i hi => ?_⟩⟩
  rw [Nat.zero_add, cell_of_row _ w.heap.size i _ e fr (heap_alloc_new w _)]
  simp [List.getElem?_eq_getElem hi]

theorem Has.cutAt {w : World} {b o c : Nat} {xs : List Int} (h : Has w (.slice (some ⟨b, o, none⟩) xs.length c) xs) (lo m : Nat) (hm : lo + m ≤ xs.length) : Has w (.slice (some ⟨b, o + lo, none⟩) m (c - lo)) ((xs.drop lo).take m) := by
  obtain ⟨p, c', hv, hc, _, hcell⟩ := h
  simp only [Value.slice.injEq] at hv
  obtain ⟨rfl, _, rfl⟩ := hv
  have hlen : ((xs.drop lo).take m).length = m := by simp; omega
  refine ⟨_, _, by rw [hlen], by rw [hlen]; omega, (fun h => by cases h), fun h0 => ?_⟩
  rw [hlen] at h0 ⊢
  obtain ⟨b', o', hp, hlt, hcl⟩ := hcell (by omega)
  simp only [Option.some.injEq, Addr.mk.injEq] at hp
  obtain ⟨rfl, rfl, _⟩ := hp
  refine ⟨b, o + lo, rfl, hlt, fun i hi => ?_⟩
  rw [Nat.add_assoc, hcl (lo + i) (by omega)]
  simp [hi]

theorem Has.takeN {w : World} {p : Option Addr} {c : Nat} {xs : List Int} {n : Nat} (h : Has w (.slice p n c) xs) (j : Nat) (hj : j ≤ xs.length) : Has w (.slice p j c) (xs.take j) := by
  obtain ⟨p', c', hv, hc, hnone, hcell⟩ := h
  simp only [Value.slice.injEq] at hv
  obtain ⟨rfl, _, rfl⟩ := hv
  have hlen : (xs.take j).length = j := by rw [List.length_take]; omega
  refine ⟨p, c, by rw [hlen], by rw [hlen]; omega, hnone, fun h0 => ?_⟩
  rw [hlen] at h0 ⊢
  obtain ⟨b, o, hp, hlt, hcl⟩ := hcell (by omega)
  exact ⟨b, o, hp, hlt, fun i hi => by rw [hcl i (by omega)]; simp [hi]⟩

theorem Has.empty (w : World) (p : Option Addr) (c : Nat) (h : p = none → c = 0) : Has w (.slice p 0 c) [] := ⟨p, c, rfl, Nat.zero_le _, h, fun h0 => absurd h0 (Nat.lt_irrefl 0)⟩

theorem Owns.empty (w : World) (B : Nat) (e : TypeId) (hB : B ≤ w.heap.size) : Owns (w.alloc (.cells #[] e)) B e (.slice (some ⟨w.heap.size, 0, none⟩) 0 0) [] :=
  World.ownsRow_made w #[] 0 hB (Nat.zero_le _) rfl

theorem Owns.lit (w : World) (B : Nat) (xs : List Int) (e : TypeId) (hB : B ≤ w.heap.size) (hl : xs.length ≤ 1099511627776) : Owns (w.alloc (.cells (xs.map (Value.int .u8)).toArray e)) B e (.slice (some ⟨w.heap.size, 0, none⟩) xs.length xs.length) xs := by
  refine ⟨by simp [cellsB], .inr ⟨w.heap.size, xs.length, _, rfl, hB, heap_alloc_new w _, Nat.le_refl _, by unfold maxLen; omega, by simp, ?_⟩⟩
  rw [Nat.mul_one]
  exact List.take_of_length_le (by simp)

theorem Owns.store {w : World} {B g cap : Nat} {e : TypeId} {xs : List Int} (h : Owns w B e (.slice (some ⟨g, 0, none⟩) xs.length cap) xs) (j : Nat) (z : Int) :
    Owns (w.setCell ⟨g, j, none⟩ (.int .u8 z)) B e (.slice (some ⟨g, 0, none⟩) xs.length cap) (xs.set j z) ∧ w.grownBy (w.setCell ⟨g, j, none⟩ (.int .u8 z)) (some g) := by
  obtain ⟨h1, h2⟩ := World.ownsRow.stored h j (.int .u8 z)
  refine ⟨?_, h2⟩
  unfold Owns
  have e1 : (xs.set j z).length = xs.length := by simp
  have e2 : cellsB (xs.set j z) = (cellsB xs).set j (.int .u8 z) := by simp [cellsB, List.map_set]
  rw [e1, e2]
  exact h1

theorem Owns.form {w : World} {B : Nat} {e : TypeId} {v : Value} {xs : List Int} (h : Owns w B e v xs) (h0 : 0 < xs.length) :
    ∃ g cap, v = .slice (some ⟨g, 0, none⟩) xs.length cap ∧ B ≤ g ∧ g < w.heap.size ∧ xs.length ≤ cap ∧ (∀ i, i < xs.length → w.cell? ⟨g, i, none⟩ = some (.int .u8 (xs.getD i 0))) ∧ ∀ j, w.frozen? ⟨g, j, none⟩ = false := by
  rcases h.2 with ⟨_, hn⟩ | ⟨g, cap, cur, rfl, hB, hg, hnc, _, _, _⟩
  · omega
  · refine ⟨g, cap, rfl, hB, (Array.getElem?_eq_some_iff.1 hg).1, hnc, fun i hi => ?_, World.ownsRow.frozenAt h⟩
    rw [World.ownsRow.cellAt h i (by omega)]
    simp [cellsB, List.getElem?_eq_getElem hi]

theorem same_mono {P : Program} {f : FuncId} {args : Array Value} {w : World} {v : Value} {Q : Ending → World → Prop} (h : Calls P f args w fun e w' => e = .returned v ∧ w' = w) (hQ : Q (.returned v) w) : Calls P f args w Q :=
  h.mono fun e w' h => by obtain ⟨rfl, rfl⟩ := h; exact hQ

end Go.Proofs.YthlelcmifolnfaaGreatDoor

namespace Go.Proofs.YthlelcmifolnfaaGreatDoor
structure Wrap9 (G : Prop) : Prop where
  out : G
theorem once_proved9 {G P : Prop} (proof : G) (main : Wrap9 G → P) : P := main ⟨proof⟩
end Go.Proofs.YthlelcmifolnfaaGreatDoor
