import Derived.Test.YtephoegcpjdglaaLxTo
import Derived.Test.YtephoegcpjdglaaEnQTo
import Derived.Test.YtephoegcpjdglaaCmR
import Derived.Test.YtephoegcpjdglaaLd
import Derived.Lib.ConvBytes
namespace Go.Proofs.Ytephoegcpjdglaa
open Go.RowKit Go.Shelf
attribute [local go_sem ↓] ldE_exec ldE_run stE_exec ldC_exec ldC_run stC_exec stC_run oc_int oc_bool oc_string oc_slice oc_pointer
theorem ret_one {P : Program} {fn : Func} {p : Tmp} {ty : TypeId} (h : fn.results = #[.cell p ty]) (tmps : Array Value) (w : World) (g : Nat) (t : TypeId) (cs : Array Value) (fr : Nat × Nat) (d : TypeDesc)
    (hp : tmps.getD p undef = .pointer (some ⟨g, 0, none⟩)) (hg : w.heap[g]? = some (.cells cs t fr))
    (hu : P.underlying ty = some d) (hd : (match d with | .struct _ | .array _ _ => true | _ => false) = true) (hi : (P.info? ty).map (·.size) = some cs.size) :
    (results fn tmps).run P w = .ok (.agg cs) w := by
  have hp' : tmps[p]?.getD undef = .pointer (some ⟨g, 0, none⟩) := by simpa using hp
  simp [results, h, hp', asAddr, run_loadVar_row w g t ty cs fr d hg hu hd hi]

theorem OwnsI.kept10 {w w' : World} {B r : Nat} {v : Value} {xs : List Int} (h : OwnsI w B v xs) (hg : w.grownBy w' (some r)) (hr : r < B) : OwnsI w' B v xs := by
  refine World.ownsRow.kept h hg ?_
  cases hv : v.ownBlock with
  | none => exact .inl rfl
  | some k =>
    have := (World.ownsRow.lt h k hv).1
    exact .inr (fun e => by cases e; omega)

end Go.Proofs.Ytephoegcpjdglaa
