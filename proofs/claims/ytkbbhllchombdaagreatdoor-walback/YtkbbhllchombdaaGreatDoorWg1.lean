import Derived.Test.YtkbbhllchombdaaGreatDoorWf3
import Derived.Test.YtkbbhllchombdaaGreatDoorRows
import Derived.Stop.LaidErr
namespace Go.Proofs.YtkbbhllchombdaaGreatDoor
open Go.RowKit

theorem g11_nib : Tryz.prog.globalNamed "corbel/codec.nibbles" = some 0 := by kernel_rfl
theorem g11_nibT : (Tryz.prog.globals[0]?).map (·.type) = some 233 := by kernel_rfl
theorem c11_nib : Tryz.prog.cellsOf 233 = 16 ∧ Tryz.prog.cellsOf 155 = 1 := ⟨by kernel_rfl, by kernel_rfl⟩
theorem g11_pow : ∃ g, Tryz.prog.globalNamed "internal/strconv.uint64pow10" = some g ∧ (Tryz.prog.globals[g]?).map (·.type) = some 312 := by
  first
    | exact ⟨1, by decide +kernel, by decide +kernel⟩
    | exact ⟨2, by decide +kernel, by decide +kernel⟩
    | exact ⟨3, by decide +kernel, by decide +kernel⟩
    | exact ⟨4, by decide +kernel, by decide +kernel⟩
    | exact ⟨5, by decide +kernel, by decide +kernel⟩
    | exact ⟨6, by decide +kernel, by decide +kernel⟩
theorem c11_pow : Tryz.prog.cellsOf 312 = 20 ∧ Tryz.prog.cellsOf 153 = 1 := ⟨by kernel_rfl, by kernel_rfl⟩
theorem g11_syn : ∃ g, Tryz.prog.globalNamed "strconv.ErrSyntax" = some g ∧ (Tryz.prog.globals[g]?).map (·.type) = some 102 := by
  first
    | exact ⟨1, by decide +kernel, by decide +kernel⟩
    | exact ⟨2, by decide +kernel, by decide +kernel⟩
    | exact ⟨3, by decide +kernel, by decide +kernel⟩
    | exact ⟨4, by decide +kernel, by decide +kernel⟩
    | exact ⟨5, by decide +kernel, by decide +kernel⟩
    | exact ⟨6, by decide +kernel, by decide +kernel⟩
theorem g11_rng : ∃ g, Tryz.prog.globalNamed "strconv.ErrRange" = some g ∧ (Tryz.prog.globals[g]?).map (·.type) = some 102 := by
  first
    | exact ⟨1, by decide +kernel, by decide +kernel⟩
    | exact ⟨2, by decide +kernel, by decide +kernel⟩
    | exact ⟨3, by decide +kernel, by decide +kernel⟩
    | exact ⟨4, by decide +kernel, by decide +kernel⟩
    | exact ⟨5, by decide +kernel, by decide +kernel⟩
    | exact ⟨6, by decide +kernel, by decide +kernel⟩
theorem star11 : "*" ++ "errors.errorString" = "*errors.errorString" := by decide
theorem row11_err (u : TypeId) (h : Tryz.prog.typeName? 3 u = some "*errors.errorString") : u = 304 :=
  typeName_ptr_named (nm := "errors.errorString") (by rw [star11]; kernel_rfl) (by kernel_rfl) (by decide) u (by rw [star11]; exact h)
theorem c11_err : Tryz.prog.cellsOf 306 = 1 ∧ Tryz.prog.cellsOf 9 = 1 := ⟨by kernel_rfl, by kernel_rfl⟩
theorem gl11_of {W : World} (h : laidMetH Tryz.prog Rows.walNoneRow.laid W) : Gl11 W := by
  have hL : laidMet Tryz.prog Rows.walNoneRow.laid W := h
  have h2 := hL.tail.tail
  have h3 := h2.tail
  have h4 := h3.tail
  have h5 := h4.tail
  have tN : Lib.TabIs Tryz.prog W "corbel/codec.nibbles" .u32 nibs := Lib.tabIs_of_head g11_nib g11_nibT Tryz.underlying233 Tryz.underlying155 c11_nib.2 c11_nib.1 h2
  obtain ⟨gp, p1, p2⟩ := g11_pow
  obtain ⟨gs, s1, s2⟩ := g11_syn
  obtain ⟨gr, r1, r2⟩ := g11_rng
  have tP : Lib.TabIs Tryz.prog W "internal/strconv.uint64pow10" .u64 Lib.pow10Tab := Lib.tabIs_of_head p1 p2 Tryz.underlying312 Tryz.underlying153 c11_pow.2 c11_pow.1 h3
  obtain ⟨a0, t0, hv0, -⟩ := laid_sentinel h4 r1 r2 Tryz.underlying102 row11_err Tryz.underlying304 Tryz.underlying306 rfl rfl Tryz.underlying9 c11_err.1 c11_err.2
  obtain ⟨a1, t1, hv1, -⟩ := laid_sentinel h5 s1 s2 Tryz.underlying102 row11_err Tryz.underlying304 Tryz.underlying306 rfl rfl Tryz.underlying9 c11_err.1 c11_err.2
  have hc : ∀ i, i < nibs.length → W.cell? ⟨0, i, none⟩ = some (.int .u32 (nibs.getD i 0)) := fun i hi => tN.cell g11_nib i hi
  exact ⟨⟨World.block_lt_of_cell? W _ (hc 0 (by decide)), fun i hi => hc i hi⟩, tP, ⟨_, _, hv1⟩, ⟨_, _, hv0⟩⟩
end Go.Proofs.YtkbbhllchombdaaGreatDoor
