/-
  Contracts: Create and Rename; how a file is laid into the map, and how it comes to another name.
-/
import Derived.Test.YtefgnehahedckaaDkR
namespace Go.Proofs.Ytefgnehahedckaa
open Go.RowKit Go.Maps

section
variable {w w' w'' : World} {d : Nat} {S : Nat → Prop} {φ : ByteArray → Nat} {σ : ByteArray → Value} {mb : Nat} {vb : Value} {R : RD} {M : DM}
/-- A new file, laid into the map. -/
theorem Lies8.putM (h : Lies8 w d S φ σ mb vb R) {x : ByteArray} (hx : x ∉ R.names) {fk : Nat} (hf : w.heap[fk]? = some (.cells #[.slice none 0 0, .int .i64 0] 79 (0, 0))) (hnew : ∀ y ∈ R.names, φ y ≠ fk) (hSf : S fk)
    (hm : MapAt w' mb (x :: R.names) (upd φ x fk) (R.mn + 1)) (hg : w.grownBy w' (some mb)) : Lies8 w' d S (upd φ x fk) (upd σ x (.slice none 0 0)) mb vb { R with names := x :: R.names, bt := upd R.bt x [], su := upd R.su x 0, mn := R.mn + 1 } := by
  obtain ⟨es, cl, hmb⟩ := h.map.block
  have hfl : fk < w.heap.size := (Array.getElem?_eq_some_iff.1 hf).1
  have hfm : fk ≠ mb := fun e => by rw [e, hmb] at hf; cases hf
  have hold : ∀ y ∈ R.names, y ≠ x := fun y hy e => hx (e ▸ hy)
  refine ⟨(hg.block d h.lt fun e => h.dM (Option.some.inj e).symm).trans h.obj, hm, ?_, fun y hy => ?_, fun y hy => ?_, fun y hy z hz hyz => ?_, fun y hy z hz hyz g h1 h2 => ?_, fun v hv => List.mem_cons_of_mem _ (h.mem v hv), h.sD, h.sM, h.sB, fun y hy => ?_, fun y hy g h1 => ?_⟩
  · have : writesV (upd φ x fk) R.wr = writesV φ R.wr := writesV_congr fun v hv => upd_ne (hold _ (h.mem v hv))
    show w'.ownsRow 0 _ 2 vb R.wr.length (writesV (upd φ x fk) R.wr)
    rw [this]
    exact row_same h.buf fun g hgb => hg.block g (h.ltB hgb) fun e => h.mB (by rw [hgb, e])
  · show w'.heap[upd φ x fk y]? = some (.cells #[upd σ x _ y, .int .i64 (upd R.su x 0 y : Nat)] _ _)
    rcases List.mem_cons.1 hy with rfl | hy
    · rw [upd_at, upd_at, upd_at]
      exact (hg.block fk hfl fun e => hfm (Option.some.inj e)).trans hf
    · rw [upd_ne (hold y hy), upd_ne (hold y hy), upd_ne (hold y hy)]
      exact (hg.block _ (h.ltF hy) fun e => h.mF hy (Option.some.inj e)).trans (h.file y hy)
  · show Owns w' 0 _ (upd σ x _ y) (upd R.bt x [] y)
    rcases List.mem_cons.1 hy with rfl | hy
    · rw [upd_at, upd_at]
      exact Owns.nil _ _ _
    · rw [upd_ne (hold y hy), upd_ne (hold y hy)]
      exact row_same (h.row y hy) fun g hgb => hg.block g (h.ltR hy hgb) fun e => h.mR hy (by rw [hgb, e])
  · rcases List.mem_cons.1 hy with e | hy'
    · rcases List.mem_cons.1 hz with e2 | hz'
      · exact absurd (e.trans e2.symm) hyz
      · rw [e, upd_at, upd_ne (hold z hz')]; exact (hnew z hz').symm
    · rcases List.mem_cons.1 hz with e2 | hz'
      · rw [e2, upd_at, upd_ne (hold y hy')]; exact hnew y hy'
      · rw [upd_ne (hold y hy'), upd_ne (hold z hz')]; exact h.inj y hy' z hz' hyz
  · rcases List.mem_cons.1 hy with e | hy'
    · rw [e, upd_at] at h1; cases h1
    · rw [upd_ne (hold y hy')] at h1
      rcases List.mem_cons.1 hz with e2 | hz'
      · rw [e2, upd_at] at h2; cases h2
      · rw [upd_ne (hold z hz')] at h2
        exact h.apart y hy' z hz' hyz g h1 h2
  · rcases List.mem_cons.1 hy with rfl | hy
    · rw [upd_at]; exact hSf
    · rw [upd_ne (hold y hy)]; exact h.sF y hy
  · rcases List.mem_cons.1 hy with rfl | hy
    · rw [upd_at] at h1; cases h1
    · rw [upd_ne (hold y hy)] at h1; exact h.sR y hy g h1
def renW (l : List (ByteArray × Nat)) (a b : ByteArray) : List (ByteArray × Nat) := l.map fun v => if v.1 = a then (b, v.2) else v
theorem renW_length (l : List (ByteArray × Nat)) (a b : ByteArray) : (renW l a b).length = l.length := List.length_map _
theorem writesV_ren {φ : ByteArray → Nat} {a b : ByteArray} : ∀ {l : List (ByteArray × Nat)}, (∀ v ∈ l, v.1 ≠ b) → writesV (upd φ b (φ a)) (renW l a b) = writesV φ l
  | [], _ => rfl
  | v :: l, h => by
    have ih := writesV_ren (φ := φ) (a := a) (l := l) fun u hu => h u (List.mem_cons_of_mem _ hu)
    show writesV _ ((if v.1 = a then (b, v.2) else v) :: renW l a b) = _
    rw [writesV_cons, ih, writesV_cons]
    by_cases e : v.1 = a
    · rw [if_pos e, upd_at, e]
    · rw [if_neg e, upd_ne (h v List.mem_cons_self)]
/-- A file comes to another name, which no file has. -/
theorem Lies8.renM (h : Lies8 w d S φ σ mb vb R) {a b : ByteArray} (ha : a ∈ R.names) (hb : b ∉ R.names) (hm : MapAt w' mb (b :: without R.names a) (upd φ b (φ a)) (R.mn + 1)) (hg : w.grownBy w' (some mb)) :
    Lies8 w' d S (upd φ b (φ a)) (upd σ b (σ a)) mb vb { R with names := b :: without R.names a, bt := upd R.bt b (R.bt a), su := upd R.su b (R.su a), wr := renW R.wr a b, mn := R.mn + 1 } := by
  have hne : ∀ y ∈ R.names, y ≠ b := fun y hy e => hb (e ▸ hy)
  have hab : a ≠ b := hne a ha
  have key : ∀ y, y ∈ b :: without R.names a → ∃ z ∈ R.names, upd φ b (φ a) y = φ z ∧ upd σ b (σ a) y = σ z ∧ upd R.bt b (R.bt a) y = R.bt z ∧ upd R.su b (R.su a) y = R.su z ∧ (y = b ∧ z = a ∨ y = z ∧ y ≠ b ∧ y ≠ a) := by
    intro y hy
    rcases List.mem_cons.1 hy with rfl | hy
    · exact ⟨a, ha, upd_at .., upd_at .., upd_at .., upd_at .., .inl ⟨rfl, rfl⟩⟩
    · obtain ⟨h1, h2⟩ := (mem_without _ _ _).1 hy
      exact ⟨y, h1, upd_ne (hne y h1), upd_ne (hne y h1), upd_ne (hne y h1), upd_ne (hne y h1), .inr ⟨rfl, hne y h1, h2⟩⟩
  have dist : ∀ y z u v, (y = b ∧ u = a ∨ y = u ∧ y ≠ b ∧ y ≠ a) → (z = b ∧ v = a ∨ z = v ∧ z ≠ b ∧ z ≠ a) → y ≠ z → u ≠ v := by
    rintro y z u v (⟨rfl, rfl⟩ | ⟨rfl, h1, h2⟩) (⟨rfl, rfl⟩ | ⟨rfl, h3, h4⟩) hyz
    · exact absurd rfl hyz
    · exact Ne.symm h4
    · exact h2
    · exact hyz
  refine ⟨(hg.block d h.lt fun e => h.dM (Option.some.inj e).symm).trans h.obj, hm, ?_, fun y hy => ?_, fun y hy => ?_, fun y hy z hz hyz => ?_, fun y hy z hz hyz g h1 h2 => ?_, fun v hv => ?_, h.sD, h.sM, h.sB, fun y hy => ?_, fun y hy g h1 => ?_⟩
  · show w'.ownsRow 0 _ 2 vb (renW R.wr a b).length (writesV (upd φ b (φ a)) (renW R.wr a b))
    rw [writesV_ren fun v hv => hne _ (h.mem v hv), renW_length]
    exact row_same h.buf fun g hgb => hg.block g (h.ltB hgb) fun e => h.mB (by rw [hgb, e])
  · obtain ⟨z, hz, e1, e2, _, e4, _⟩ := key y hy
    show w'.heap[upd φ b (φ a) y]? = some (.cells #[upd σ b (σ a) y, .int .i64 (upd R.su b (R.su a) y : Nat)] _ _)
    rw [e1, e2, e4]
    exact (hg.block _ (h.ltF hz) fun e => h.mF hz (Option.some.inj e)).trans (h.file z hz)
  · obtain ⟨z, hz, _, e2, e3, _, _⟩ := key y hy
    show Owns w' 0 _ (upd σ b (σ a) y) (upd R.bt b (R.bt a) y)
    rw [e2, e3]
    exact row_same (h.row z hz) fun g hgb => hg.block g (h.ltR hz hgb) fun e => h.mR hz (by rw [hgb, e])
  · obtain ⟨u, hu, e1, _, _, _, k1⟩ := key y hy
    obtain ⟨v, hv, f1, _, _, _, k2⟩ := key z hz
    rw [e1, f1]
    exact h.inj u hu v hv (dist _ _ _ _ k1 k2 hyz)
  · obtain ⟨u, hu, _, e2, _, _, k1⟩ := key y hy
    obtain ⟨v, hv, _, f2, _, _, k2⟩ := key z hz
    rw [e2] at h1
    rw [f2] at h2
    exact h.apart u hu v hv (dist _ _ _ _ k1 k2 hyz) g h1 h2
  · obtain ⟨u, hu, rfl⟩ := List.mem_map.1 hv
    by_cases e : u.1 = a
    · rw [if_pos e]; exact List.mem_cons_self
    · rw [if_neg e]; exact List.mem_cons_of_mem _ ((mem_without _ _ _).2 ⟨h.mem u hu, e⟩)
  · obtain ⟨u, hu, e1, _⟩ := key y hy
    rw [e1]; exact h.sF u hu
  · obtain ⟨u, hu, _, e2, _⟩ := key y hy
    rw [e2] at h1; exact h.sR u hu g h1
end
end Go.Proofs.Ytefgnehahedckaa
