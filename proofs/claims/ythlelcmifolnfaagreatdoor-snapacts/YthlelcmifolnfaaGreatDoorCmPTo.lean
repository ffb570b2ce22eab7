import Derived.Test.YthlelcmifolnfaaGreatDoorDkBTo
import Derived.Test.YthlelcmifolnfaaGreatDoorWaXTo
import Derived.Test.YthlelcmifolnfaaGreatDoorRef8To
import Derived.Test.YthlelcmifolnfaaGreatDoorBack0To
namespace Go.Proofs.YthlelcmifolnfaaGreatDoor
open Go.RowKit
theorem loseS_wrong (xs : List Int) (n : Nat) : (loseS xs true n).2 = true := by unfold loseS; split <;> rfl
theorem numB_pos (u : Int) : 0 < (numB u).length := by rw [numB_length]; omega
theorem ap_slice_g {P : Program} {ops : Array Oper} {rest : List Oper} {o : Oper} {a : Act} {Q : Exit → Act → World → Prop} (w : World) (hgd : o.guard = none) (s x : Operand) (t : TypeId)
    (ho : o.op = .call { callee := .builtin .append, args := #[s, x], argTypes := #[t, t] })
    (B : Nat) (e : TypeId) (i : TypeInfo) (ht : P.underlying t = some (.slice e)) (hi : P.info? e = some i) (hz : i.zero = some (.int .u8 0)) (hsize : i.size = 1) (hby : i.bytes = 1)
    (v : Value) (xs ys : List Int) (hs : a.eval s = v) (hx : Has w (a.eval x) ys) (hown : Owns w B e v xs) (hlen : xs.length ≤ 1099511627776) (hlen2 : ys.length ≤ 1099511627776) (hB : B ≤ w.heap.size)
    (h : ∀ v' w', Owns w' B e v' (xs ++ ys) → w.grownBy w' v.ownBlock → wpList P ops Q rest (a.put o.dst v') w') :
    wpList P ops Q (o :: rest) a w := by
  obtain ⟨p, c, hv, hc, hnone, hcell⟩ := hx
  cases p with
  | none =>
    obtain rfl := hnone rfl
    have hy : ys = [] := List.eq_nil_of_length_eq_zero (by omega)
    subst hy
    refine wpList_append_own_none hgd s x t ho B e i 1 ht hi v xs.length (cellsB xs) hs hown (by simpa using hv) ?_
    refine h v w ?_ ⟨rfl, rfl, rfl, Nat.le_refl _, fun _ _ _ => rfl⟩
    simpa using hown
  | some ad =>
    refine wpList_append_own _ hgd s x t ho B e i (.int .u8 0) 1 1 ht hi hz hsize hby rfl (by decide) v xs.length (cellsB xs) hs hown ad ys.length c (cellsB ys) hv (by simp [cellsB]) ?_ (cellsB_one ys) ?_ ?_ hB ?_
    · intro j u hj
      have hjl : j < ys.length := by
        have := (List.getElem?_eq_some_iff.1 hj).1
        simpa [cellsB] using this
      obtain ⟨b, o', hp, _, hcl⟩ := hcell (by omega)
      obtain rfl := Option.some.inj hp
      rw [Addr.add_lit, hcl j hjl]
      simp [cellsB, List.getElem?_eq_getElem hjl] at hj
      subst hj
      simp [List.getElem?_eq_getElem hjl]
    · unfold maxLen; omega
    · omega
    · intro v' w' hown' hgrow _
      refine h v' w' ?_ hgrow
      unfold Owns
      simpa [cellsB] using hown'

end Go.Proofs.YthlelcmifolnfaaGreatDoor
