/-
  Contract: List: the names, by bytes.
-/
import Derived.Test.YtefgnehahedckaaDkY
import Derived.Test.YtefgnehahedckaaDkL0
namespace Go.Proofs.Ytefgnehahedckaa
open Go.RowKit Go.Maps Go.Sort Go.Shelf

theorem less_lt : ∀ x y : List UInt8, Op.bytesLess x y = true → x < y
  | [], [], h => by simp [Op.bytesLess] at h
  | [], _ :: _, _ => List.nil_lt_cons _ _
  | _ :: _, [], h => by simp [Op.bytesLess] at h
  | a :: x, b :: y, h => by
    simp only [Op.bytesLess, Bool.or_eq_true, Bool.and_eq_true, decide_eq_true_eq, beq_iff_eq] at h
    rw [List.cons_lt_cons_iff]
    rcases h with h | ⟨rfl, h⟩
    · exact .inl h
    · exact .inr ⟨rfl, less_lt x y h⟩
def textsV8 (l : List ByteArray) : List Value := l.map Value.string
theorem enc_data (x : ByteArray) : encStr x.data.toList = .string x := by
  unfold encStr
  simp
/-- The names of a disk, sorted, are its names. -/
theorem names_sorted {M : DM} (hI : M.Inv) {ss : List (List UInt8)} (h : ss.Perm (M.names.map fun x => x.data.toList)) : (ss.mergeSort (fun x y => decide (x ≤ y))).map encStr = textsV8 M.names := by
  have e1 : ss.mergeSort (fun x y => decide (x ≤ y)) = (M.names.map fun x => x.data.toList).mergeSort (fun x y => decide (x ≤ y)) := mergeSort_of_perm h
  have e2 : (M.names.map fun x => x.data.toList).mergeSort (fun x y => decide (x ≤ y)) = M.names.map fun x => x.data.toList := by
    refine List.mergeSort_of_pairwise ?_
    rw [List.pairwise_map]
    have hr := hI.rise
    unfold Rises at hr
    have hr' : M.names.Pairwise fun x y => ltT x y = true := by
      show (M.L.map Prod.fst).Pairwise _
      rw [List.pairwise_map]
      exact hr
    refine hr'.imp fun {a b} hab => ?_
    rw [decide_eq_true_eq]
    have := less_lt _ _ hab
    rw [Lib.toList_data, Lib.toList_data] at this
    exact List.le_of_lt this
  rw [e1, e2, List.map_map]
  unfold textsV8
  exact List.map_congr_left fun x _ => enc_data x
/-- What List tells. -/
def DM.listT (M : DM) : List ByteArray := if M.off = true then [] else M.names
set_option maxRecDepth 10000 in
set_option maxHeartbeats 1000000 in
theorem list_any {w : World} {d : Nat} {S : Nat → Prop} {M : DM} (hD : DiskAt w d S M) (hI : M.Inv) :
    Calls Try.prog 27 #[.pointer (some ⟨d, 0, none⟩)] w fun e w' => (∃ v, e = .returned v ∧ w'.ownsRow w.heap.size 9 1 v M.listT.length (textsV8 M.listT)) ∧ Below w.heap.size w w' := by
  have hon := on_any hD
  cases hf : M.off with
  | true =>
    have e : M.listT = [] := by unfold DM.listT; rw [if_pos hf]
    rw [e]
    rw [hf] at hon
    go_enter Try.func27, Try.ntmps27
    go_wp2_with fail
    refine same_mono hon ?_
    go_wp2
    go_ret
    exact ⟨⟨_, rfl, World.ownsRow_nil _ _ _ _⟩, Below.refl _ _⟩
  | false =>
    have e : M.listT = M.names := by unfold DM.listT; rw [if_neg (by rw [hf]; decide)]
    rw [e]
    rw [hf] at hon
    obtain ⟨φ, σ, mb, vb, kv, h, -, hcnt⟩ := hD.open8 hI
    obtain ⟨c0, -⟩ := h.cells
    obtain ⟨D, hown, hperm, -⟩ := h.map.keys hI.nodup hI.short
    change w.ownsMap Try.prog 9 ptrR mb M.names.length D at hown
    change (M.names.map fun x => x.data.toList).Perm (strKeys D) at hperm
    have hsz : Maps.size D ≤ 16777216 := Nat.le_trans hown.size_le hcnt
    have hK := keys_L (some mb) w
    have hL := sorted_L mb M.names.length D ptrR w hown (by unfold maxLen; omega) (by omega)
    clear hown h
    refine (callsIn_wide (n := 6)).1 ?_
    have hfO : Fence.wide.fn 29 := trivial
    have hfK : Fence.wide.fn 63 := trivial
    have hfS : Fence.wide.fn 62 := trivial
    refine callsIn_of_wp Try.func27 rfl trivial ?_ rfl
    simp only [Try.ntmps27, List.size_toArray, List.length_cons, List.length_nil, Nat.reduceAdd, Nat.reduceSub, Array.replicate_succ, Array.replicate_zero, List.push_toArray, List.append_toArray, List.nil_append, List.cons_append]
    gi_wp2_with (first
      | (gi_at_call 29; refine (callsIn_wide.2 hon).mono ?_; rintro e w' ⟨rfl, rfl⟩)
      | (gi_at_call 63; refine hK.mono ?_; rintro e w' ⟨rfl, rfl⟩)
      | (gi_at_call 62; refine hL.mono ?_; rintro e w' ⟨v, ss, rfl, hS, hrow, hnil, hb⟩))
    go_ret
    have hp : ss.Perm (M.names.map fun x => x.data.toList) := hS.trans hperm.symm
    rw [names_sorted hI hp, hp.length_eq, List.length_map] at hrow
    exact ⟨⟨_, rfl, row_base hrow (by simp)⟩, ((Below.refl _ _).alloc (Nat.le_refl _) _).trans (hb.mono (by simp))⟩
end Go.Proofs.Ytefgnehahedckaa
