import Derived.Test.YtgjjbnnojmighaaPgETo
import Derived.Deep.DeepHandedRow
import Derived.ProofKit
import Derived.Deep.SlicePairs
import Derived.SizedLaws
import Derived.ChangeSame
import Derived.OpenShut
import Derived.ShutString
import Derived.ChangeOld
import Derived.Carry
namespace Go.Proofs.Ytgjjbnnojmighaa
open Go.ChangeShapes Go.WideShapes Go.ChangeAt Go.RowKit Go.Deep

section
variable {H : Type} {enc : TypeId × Value → H} {W : World} {spare : Nat → Bool} {held : Bool} {b0 base fuel : Nat}

theorem uints_in16 {a : Option Addr} {n c : Nat} {x : DataW H × List MemPlace} (h : DataW.trod enc Try.prog W base spare held fuel 39 [.slice a n c] = some x) (hw : ∀ q ∈ x.1.weights Try.prog 39, q ≤ reachBytes) :
    ∃ zs : List Int, zs.length = n ∧ HasU16 W (.slice a n c) zs ∧ (∀ z ∈ zs, 0 ≤ z) ∧ n ≤ 140737488351232 := by
  rcases open_ints Try.underlying39 Try.underlying33 (by kernel_rfl) h with ⟨hcs, _⟩ | ⟨a', l, c', zs, hcs, _, hl, hm, hz, hx, hcell, hwz⟩
  · simp only [List.cons.injEq, Value.slice.injEq, and_true] at hcs
    obtain ⟨rfl, rfl, rfl⟩ := hcs
    exact ⟨[], rfl, ⟨none, 0, rfl, Nat.le_refl _, fun _ => rfl, fun h => absurd h (Nat.lt_irrefl 0)⟩, (fun _ h => by cases h), by omega⟩
  · simp only [List.cons.injEq, Value.slice.injEq, and_true] at hcs
    obtain ⟨rfl, rfl, rfl⟩ := hcs
    have hnz : n ≤ zs.length := by rw [hz]; split <;> omega
    have hlen : (zs.take n).length = n := by rw [List.length_take]; omega
    have hs : n ≤ 140737488351232 := by
      have := hw ((((lits IntKind.u64 (zs.take n)) : List (DataW H)).length + ((lits IntKind.u64 (zs.drop n)) : List (DataW H)).length) * Try.prog.bytesOf 33) (by rw [hx]; simp [DataW.weights, Try.underlying39])
      rw [show Try.prog.bytesOf 33 = 8 by kernel_rfl] at this
      simp only [lits, List.length_map, hlen, reachBytes] at this
      omega
    refine ⟨zs.take n, hlen, ⟨some a', c, by rw [hlen], by rw [hlen]; exact hl, (fun h => by cases h), fun h0 => ?_⟩, fun z hz => (bounds_u64 (hwz z (List.mem_of_mem_take hz))).1, hs⟩
    rw [hlen] at h0 ⊢
    obtain ⟨b, o, s⟩ := a'
    obtain rfl : s = none := by simpa [Addr.add] using World.cell?_spot (hcell 0 (by omega))
    refine ⟨b, o, rfl, World.block_lt_of_cell? W _ (hcell 0 (by omega)), fun i hi => ?_⟩
    rw [← Go.WideShapes.add_plain, hcell i (by omega)]
    simp [List.getD_eq_getElem?_getD, hi]

set_option maxRecDepth 100000 in
theorem act_in16 {cs : List Value} {x : DataW H × List MemPlace} (hlen : cs.length = 3) (h : DataW.trod enc Try.prog W base spare held fuel 28 cs = some x) :
    ∃ A : Act16, cs = A.arr.toList := by
  obtain ⟨xs, k', hk, hxy, _, hxl, hf⟩ := DataW.trod_struct Try.underlying28 h
  match xs, hxl, cs, hlen with
  | [y0, y1, y2], _, [v0, v1, v2], _ =>
    have g0 := hf 0 _ rfl
    have g1 := hf 1 _ rfl
    have g2 := hf 2 _ rfl
    simp [show Try.prog.cellsOf 3 = 1 by kernel_rfl] at g0 g1 g2
    obtain ⟨z0, hz0, rfl, w0⟩ := DataW.trod_int Try.underlying3 g0
    obtain ⟨z1, hz1, rfl, w1⟩ := DataW.trod_int Try.underlying3 g1
    obtain ⟨z2, hz2, rfl, w2⟩ := DataW.trod_int Try.underlying3 g2
    cases hz0; cases hz1; cases hz2
    exact ⟨⟨z0, z1, z2⟩, rfl⟩
set_option maxRecDepth 100000 in
theorem acts_in16 {a : Option Addr} {n c : Nat} {x : DataW H × List MemPlace} (h : DataW.trod enc Try.prog W base spare held fuel 22 [.slice a n c] = some x) (hw : ∀ q ∈ x.1.weights Try.prog 22, q ≤ reachBytes) :
    ∃ zs : List Act16, zs.length = n ∧ HasA16 W (.slice a n c) zs ∧ n ≤ 140737488351232 := by
  rcases open_slice Try.underlying22 h with ⟨hcs, _⟩ | ⟨a', len, cap, m, k, D, Pl, hcs, hb, hl, hm, hmm, rfl, hx⟩
  · simp only [List.cons.injEq, Value.slice.injEq, and_true] at hcs
    obtain ⟨rfl, rfl, rfl⟩ := hcs
    exact ⟨[], rfl, ⟨none, 0, rfl, Nat.le_refl _, fun _ => rfl, fun h => absurd h (Nat.lt_irrefl 0)⟩, by omega⟩
  · simp only [List.cons.injEq, Value.slice.injEq, and_true] at hcs
    obtain ⟨rfl, rfl, rfl⟩ := hcs
    have hlm : n ≤ m := by rw [hmm]; split <;> omega
    rw [show Try.prog.cellsOf 28 = 3 by kernel_rfl] at hx
    have hs : n ≤ 140737488351232 := by
      have := hw _ (by simp only [DataW.weights, Try.underlying22]; exact List.mem_cons_self)
      rw [show Try.prog.bytesOf 28 = 24 by kernel_rfl] at this
      simp only [List.length_map, List.length_range, reachBytes] at this
      omega
    have each : ∀ i, i < n → ∃ A : Act16, ∀ j, j < 3 → W.cell? ((a'.add (i * 3)).add j) = A.arr.toList[j]? := by
      intro i hi
      obtain ⟨cs', h1, h2⟩ := hx i (by omega)
      obtain ⟨_, hlen, hcell⟩ := World.cells?_some h1
      obtain ⟨A, rfl⟩ := act_in16 hlen h2
      exact ⟨A, fun j hj => hcell j hj⟩
    have each' : ∀ i, ∃ A : Act16, i < n → ∀ j, j < 3 → W.cell? ((a'.add (i * 3)).add j) = A.arr.toList[j]? := fun i => by
      by_cases hi : i < n
      · obtain ⟨A, hA⟩ := each i hi
        exact ⟨A, fun _ => hA⟩
      · exact ⟨noA16, fun h => absurd h hi⟩
    obtain ⟨A, hA⟩ := Classical.axiomOfChoice each'
    have hlen : ((List.range n).map A).length = n := by simp
    have hget : ∀ i, i < n → ((List.range n).map A).getD i noA16 = A i := fun i hi => by simp [List.getD_eq_getElem?_getD, hi]
    refine ⟨(List.range n).map A, hlen, ⟨some a', c, by rw [hlen], by rw [hlen]; exact hl, (fun h => by cases h), fun h0 => ?_⟩, hs⟩
    rw [hlen] at h0 ⊢
    obtain ⟨b, o, s⟩ := a'
    have h00 := hA 0 h0 0 (by omega)
    obtain rfl : s = none := by simpa [Addr.add] using World.cell?_spot h00
    refine ⟨b, o, rfl, World.block_lt_of_cell? W _ h00, fun i hi j hj => ?_⟩
    have h1 := hA i hi j hj
    rw [hget i hi]
    simp only [Go.WideShapes.add_plain] at h1
    rw [h1, Array.getElem?_toList]
end
end Go.Proofs.Ytgjjbnnojmighaa
