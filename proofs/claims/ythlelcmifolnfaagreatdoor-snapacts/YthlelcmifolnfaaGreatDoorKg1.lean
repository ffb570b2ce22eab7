import Derived.Test.YthlelcmifolnfaaGreatDoorKb1To
import Derived.Test.YthlelcmifolnfaaGreatDoorRows
import Derived.Stop.LaidErr
namespace Go.Proofs.YthlelcmifolnfaaGreatDoor
open Go.RowKit

theorem g12_nib : Tryz.prog.globalNamed "corbel/codec.nibbles" = some 0 := by kernel_rfl
theorem g12_nibT : (Tryz.prog.globals[0]?).map (·.type) = some 173 := by kernel_rfl
theorem c12_nib : Tryz.prog.cellsOf 173 = 16 ∧ Tryz.prog.cellsOf 86 = 1 := ⟨by kernel_rfl, by kernel_rfl⟩
theorem g12_pow : ∃ g, Tryz.prog.globalNamed "internal/strconv.uint64pow10" = some g ∧ (Tryz.prog.globals[g]?).map (·.type) = some 244 := by
  first
    | exact ⟨1, by decide +kernel, by decide +kernel⟩
    | exact ⟨2, by decide +kernel, by decide +kernel⟩
    | exact ⟨3, by decide +kernel, by decide +kernel⟩
    | exact ⟨4, by decide +kernel, by decide +kernel⟩
    | exact ⟨5, by decide +kernel, by decide +kernel⟩
    | exact ⟨6, by decide +kernel, by decide +kernel⟩
theorem c12_pow : Tryz.prog.cellsOf 244 = 20 ∧ Tryz.prog.cellsOf 84 = 1 := ⟨by kernel_rfl, by kernel_rfl⟩
theorem g12_syn : ∃ g, Tryz.prog.globalNamed "strconv.ErrSyntax" = some g ∧ (Tryz.prog.globals[g]?).map (·.type) = some 96 := by
  first
    | exact ⟨1, by decide +kernel, by decide +kernel⟩
    | exact ⟨2, by decide +kernel, by decide +kernel⟩
    | exact ⟨3, by decide +kernel, by decide +kernel⟩
    | exact ⟨4, by decide +kernel, by decide +kernel⟩
    | exact ⟨5, by decide +kernel, by decide +kernel⟩
    | exact ⟨6, by decide +kernel, by decide +kernel⟩
theorem g12_rng : ∃ g, Tryz.prog.globalNamed "strconv.ErrRange" = some g ∧ (Tryz.prog.globals[g]?).map (·.type) = some 96 := by
  first
    | exact ⟨1, by decide +kernel, by decide +kernel⟩
    | exact ⟨2, by decide +kernel, by decide +kernel⟩
    | exact ⟨3, by decide +kernel, by decide +kernel⟩
    | exact ⟨4, by decide +kernel, by decide +kernel⟩
    | exact ⟨5, by decide +kernel, by decide +kernel⟩
    | exact ⟨6, by decide +kernel, by decide +kernel⟩
theorem star12 : "*" ++ "errors.errorString" = "*errors.errorString" := by decide
theorem row12_err (u : TypeId) (h : Tryz.prog.typeName? 3 u = some "*errors.errorString") : u = 240 :=
  typeName_ptr_named (nm := "errors.errorString") (by rw [star12]; kernel_rfl) (by kernel_rfl) (by decide) u (by rw [star12]; exact h)
theorem c12_err : Tryz.prog.cellsOf 242 = 1 ∧ Tryz.prog.cellsOf 9 = 1 := ⟨by kernel_rfl, by kernel_rfl⟩
theorem gl12_of {W : World} (h : laidMetH Tryz.prog Rows.snapChunksRow.laid W) : Gl11 W := by
  have hL : laidMet Tryz.prog Rows.snapChunksRow.laid W := h
  have h2 := hL.tail.tail
  have h3 := h2.tail
  have h4 := h3.tail
  have h5 := h4.tail
  have tN : Lib.TabIs Tryz.prog W "corbel/codec.nibbles" .u32 nibs := Lib.tabIs_of_head g12_nib g12_nibT Tryz.underlying173 Tryz.underlying86 c12_nib.2 c12_nib.1 h2
  obtain ⟨gp, p1, p2⟩ := g12_pow
  obtain ⟨gs, s1, s2⟩ := g12_syn
  obtain ⟨gr, r1, r2⟩ := g12_rng
  have tP : Lib.TabIs Tryz.prog W "internal/strconv.uint64pow10" .u64 Lib.pow10Tab := Lib.tabIs_of_head p1 p2 Tryz.underlying244 Tryz.underlying84 c12_pow.2 c12_pow.1 h3
  obtain ⟨a0, t0, hv0, -⟩ := laid_sentinel h4 r1 r2 Tryz.underlying96 row12_err Tryz.underlying240 Tryz.underlying242 rfl rfl Tryz.underlying9 c12_err.1 c12_err.2
  obtain ⟨a1, t1, hv1, -⟩ := laid_sentinel h5 s1 s2 Tryz.underlying96 row12_err Tryz.underlying240 Tryz.underlying242 rfl rfl Tryz.underlying9 c12_err.1 c12_err.2
  have hc : ∀ i, i < nibs.length → W.cell? ⟨0, i, none⟩ = some (.int .u32 (nibs.getD i 0)) := fun i hi => tN.cell g12_nib i hi
  exact ⟨⟨World.block_lt_of_cell? W _ (hc 0 (by decide)), fun i hi => hc i hi⟩, tP, ⟨_, _, hv1⟩, ⟨_, _, hv0⟩⟩
end Go.Proofs.YthlelcmifolnfaaGreatDoor
