/-
  Contract: Map[int].Get.
-/
import Derived.Test.YtkjnifipepiahaaDoorSwHi
namespace Go.Proofs.YtkjnifipepiahaaDoor
open Go.RowKit Go.Shelf

set_option maxHeartbeats 1000000 in
theorem get_map_i (b bw bs : Nat) (M : SM) (key : ByteArray) (w : World) (hT : Tab w) (h : Lies 60 93 w b bw bs M) (hF : M.Fit) (hV : M.Typed IsV_i) (hk : key.size < 140737488355328) :
    Calls Tryd.prog 32 #[.pointer (some ⟨b, 0, none⟩), .string key] w fun e w' => e = .returned (.tuple #[(M.get key (.int .i64 0)).1, .bool (M.get key (.int .i64 0)).2]) ∧ Below w.heap.size w w' := by
  have hfind := find_any_i b bw bs M key w hT h hF hk
  unfold SM.get
  cases hfd : M.find key with
  | some p =>
    obtain ⟨hp1, _, _, _⟩ := find_some hF hfd
    obtain ⟨x, hx⟩ := hV p hp1
    rw [hfd] at hfind
    simp only
    rw [hx]
    clear hfd
    go_enter Tryd.func32, Tryd.ntmps32
    go_wp2_with fail
    refine hfind.mono ?_
    rintro e w1 ⟨rfl, hb⟩
    have hl := h.below hb (Nat.le_refl _)
    obtain ⟨dw, ds, _, _, _, k3, _, _, _, hds⟩ := hl.cells
    have kv := hl.val p hp1
    rw [hx] at kv
    have hp2 : (p : Int) < M.ss.length := by omega
    have hp3 : (p : Int) ≠ -1 := by omega
    clear hx hfind
    go_wp2
    go_ret2
    exact ⟨rfl, hb⟩
  | none =>
    rw [hfd] at hfind
    simp only
    clear hfd
    go_enter Tryd.func32, Tryd.ntmps32
    go_wp2_with fail
    refine hfind.mono ?_
    rintro e w1 ⟨rfl, hb⟩
    clear hfind
    go_wp2
    go_ret2
    exact ⟨rfl, hb⟩
end Go.Proofs.YtkjnifipepiahaaDoor
