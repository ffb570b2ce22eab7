import Derived.Test.YtkocomfcjklgcaaCgJTo
namespace Go.Proofs.Ytkocomfcjklgcaa
open Go.RowKit Go.Shelf

theorem most_any15 {x : ConfV} {w : World} {t : Value} {l : List Int} {r : Bool} (hG : Good15 x.f) (h : FitsF w x) (ht : HasI w t l) (ll : l.length ≤ 40000) (hr : maj15 x.f.vs (hasI10 l) = r) :
    Calls Try.prog 18 #[.agg x.arr, t] w fun e w' => e = .returned (.bool r) ∧ Below w.heap.size w w' := by
  have hk := majority_any x t l w h ht (Nat.le_trans hG.vs.len (by decide)) ll
  rwa [most_is15 hG.vs, hr] at hk
end Go.Proofs.Ytkocomfcjklgcaa
