/-
  Contracts: few of the statements on replies.
-/
import Derived.Test.YtomhmoedicajoaaCmM
import Derived.Test.YtomhmoedicajoaaCmD
namespace Go.Proofs.Ytomhmoedicajoaa
open Go.RowKit

/-- What few reckons of a reply. -/
def costR (a : ByteArray × ByteArray) : Nat := 1 + (a.1.size + a.2.size) / 20
def FewR (r : Rep9) : Prop := r.val.size / 20 + (r.l.map costR).sum ≤ 500
theorem fewR_val {r : Rep9} (h : FewR r) : r.val.size ≤ 10019 := by unfold FewR at h; omega
theorem fewR_len {r : Rep9} (h : FewR r) : r.l.length ≤ 500 := by
  have : ∀ l : List (ByteArray × ByteArray), l.length ≤ (l.map costR).sum := by
    intro l
    induction l with
    | nil => exact Nat.le_refl _
    | cons a l ih => rw [List.map_cons, List.sum_cons, List.length_cons]; unfold costR; unfold costR at ih; omega
  have h1 := this r.l
  unfold FewR at h
  omega
theorem fewR_size {r : Rep9} (h : FewR r) {a : ByteArray × ByteArray} (ha : a ∈ r.l) : a.1.size + a.2.size ≤ 10019 := by
  have : ∀ l : List (ByteArray × ByteArray), a ∈ l → costR a ≤ (l.map costR).sum := by
    intro l
    induction l with
    | nil => exact fun h => by cases h
    | cons b l ih =>
      intro hm
      rw [List.map_cons, List.sum_cons]
      rcases List.mem_cons.1 hm with rfl | hm
      · omega
      · have := ih hm; omega
  have h1 := this r.l ha
  unfold FewR at h
  unfold costR at h1 h
  omega
theorem fewR_fewP {r : Rep9} (h : FewR r) : FewP r.l := ⟨by have := fewR_len h; omega, fun p hp => by have := fewR_size h hp; omega⟩
theorem fewR_short {r : Rep9} (h : FewR r) (h1 : inI r.err) (h2 : inI r.ses) : ShortR9 r :=
  ⟨(fewR_fewP h).small, by have := fewR_len h; omega, by have := fewR_val h; omega, h1, h2⟩
theorem few_step9 (ks vs : Nat) (h1 : ks ≤ 140737488351232) (h2 : vs ≤ 140737488351232) :
    ∃ s q : Nat, wrap64 ((ks : Int) + (vs : Int)) = (s : Int) ∧ (ks : Int) + (vs : Int) = (s : Int) ∧ (s : Int).tdiv 20 = (q : Int) ∧ (s : Int) / 20 = (q : Int) ∧ q ≤ 140737488351232 ∧ 1 + (ks + vs) / 20 = 1 + q := by
  refine ⟨ks + vs, (ks + vs) / 20, ?_, ?_, ?_, ?_, ?_, rfl⟩
  · rw [IntWalk.wrap64_in _ (by omega)]; omega
  · omega
  · rw [Int.tdiv_eq_ediv_of_nonneg (by omega)]; omega
  · omega
  · omega

set_option maxRecDepth 10000 in
set_option maxHeartbeats 1500000 in
theorem fewR_any (r : Rep9) (p : Option Addr) (n c : Nat) (w : World) (hf : FitsR9 w r (.slice p n c)) :
    Calls Try.prog 22 #[.agg (r.arr (.slice p n c))] w fun e w' => ∃ b : Bool, e = .returned (.bool b) ∧ (b = true → FewR r) ∧ Below w.heap.size w w' := by
  obtain ⟨hX, hI, hn, hv, -, -⟩ := hf
  have hlen' : Hid (r.l.length = n) := hX.len.1.symm
  rw [hlen'.out] at hn
  have hI' : Hid (InP r.l) := hI
  clear hI
  have HF : ∀ k : Nat, k ≤ 500 → r.val.size / 20 + (r.l.map costR).sum = k → FewR r := fun k hk h => by unfold FewR; omega
  have HF' : Hid (∀ k : Nat, k ≤ 500 → r.val.size / 20 + (r.l.map costR).sum = k → FewR r) := HF
  clear HF
  have hb0 : Below w.heap.size w (w.alloc (.cells (r.arr (.slice p n c)) 39)) := (Below.refl _ _).alloc (Nat.le_refl _) _
  have hq0 : (r.val.size : Int).tdiv 20 = ((r.val.size / 20 : Nat) : Int) := by rw [Int.tdiv_eq_ediv_of_nonneg (by omega)]; omega
  have hq1 : r.val.size / 20 ≤ 7036874417562 := by omega
  obtain ⟨err, fnd, val, ses, xs⟩ := r
  unfold Rep9.arr at *
  dsimp only at *
  generalize val.size / 20 = k0 at *
  clear hv
  go_enter Try.func22, Try.ntmps22
  go_wp2
  generalize w.alloc (.cells #[.int .i64 err, .bool fnd, .string val, .int .i64 ses, .slice p n c] 39) = W1 at *
  have hX1 := hX.below hb0 (Nat.le_refl _)
  clear hX
  go_loopw [13, 3] (fun t s wr => ∃ (j : Nat) (k : Nat), j ≤ n ∧ t = .int .i64 (j : Nat) ∧ s = .int .i64 (k : Nat) ∧ k ≤ 7036874417562 ∧ Hid (k0 + ((xs.take j).map costR).sum = k) ∧ Below W1.heap.size W1 wr) (fun t _ _ => n - (intOf t).toNat)
  case atStart => exact ⟨0, k0, by omega, rfl, by go_num, by omega, (by show _ = _; simp), Below.refl _ _⟩
  case round =>
    obtain ⟨j, k, hj, rfl, rfl, hk, hs, hb⟩ := hrel
    by_cases hlt : j < n
    · obtain ⟨bb, oo, rfl, hbb, hcc, -, c1, c2⟩ := (hX1.below hb (Nat.le_refl _)).at (j := j) hlt
      have hjx : j < xs.length := by rw [hlen'.out]; exact hlt
      have hkk : Hid (xs.take j ++ [xs.getD j default] = xs.take (j + 1)) := ptake_snoc hjx
      have hz := hI'.out _ (pgetD_mem hjx)
      clear hjx
      generalize xs.getD j default = x at *
      obtain ⟨ky, vl⟩ := x
      dsimp only at c1 c2 hz
      obtain ⟨z1, z2⟩ := hz
      have hsum : Hid (k0 + ((xs.take (j + 1)).map costR).sum = k + costR (ky, vl)) := by
        show _ = _
        rw [← hkk.out, List.map_append, List.sum_append, ← Nat.add_assoc, hs.out]; simp
      have hcst : costR (ky, vl) = 1 + (ky.size + vl.size) / 20 := rfl
      obtain ⟨sm, qt, e1, e2, e3, e4, e5, e6⟩ := few_step9 ky.size vl.size z1 z2
      rw [hcst, e6] at hsum
      clear hkk hs hcst z1 z2 e6
      by_cases h6 : 500 < (k : Int) + (1 + qt)
      · go_wp2
        go_ret
        exact ⟨false, rfl, (fun h => by cases h), hb0.trans ((hb.alloc (by have := hb.size; omega) _).mono hb0.size)⟩
      · go_wp2
        go_roundw
        case rel =>
          refine ⟨j + 1, k + (1 + qt), by omega, by simp, by simp, by omega, ?_, hb.alloc (by have := hb.size; omega) _⟩
          exact hsum
        case measure => simp only [intOf]; omega
    · have hjn : j = n := by omega
      subst hjn
      by_cases h5 : (k : Int) ≤ 500
      · go_wp2
        go_ret
        refine ⟨true, rfl, fun _ => ?_, hb0.trans (hb.mono hb0.size)⟩
        refine HF'.out k (by omega) ?_
        have h9 := hs.out
        rw [List.take_of_length_le (by rw [hlen'.out]; omega)] at h9
        exact h9
      · go_wp2
        go_ret
        exact .inl ⟨rfl, hb0.trans (hb.mono hb0.size)⟩
end Go.Proofs.Ytomhmoedicajoaa
