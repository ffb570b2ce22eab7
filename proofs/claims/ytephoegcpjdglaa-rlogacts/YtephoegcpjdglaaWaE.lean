import Derived.Test.YtephoegcpjdglaaWaV
import Derived.Test.YtephoegcpjdglaaEnQTo
import Derived.Test.YtephoegcpjdglaaW1
import Derived.WalkKit
import Derived.Lib.EndianBits
import Derived.BigQuiet
import Derived.WalkSmall
import Derived.Deep.RegionLaw
import Derived.Test.YtephoegcpjdglaaEo2
import Derived.Test.YtephoegcpjdglaaLxTo
import Derived.Test.YtephoegcpjdglaaLd
import Derived.Test.YtephoegcpjdglaaCmR
import Derived.Test.YtephoegcpjdglaaEp6To
import Derived.Deep.DeepCutAuto
import Derived.Deep.RegionHeld3
import Derived.Test.YtephoegcpjdglaaOnceTo
import Derived.Test.YtephoegcpjdglaaChecked
import Derived.AtR
import Derived.Test.YtephoegcpjdglaaDkM
namespace Go.Proofs.Ytephoegcpjdglaa
open Go.RowKit Go.Shelf
attribute [local go_sem ↓] ldE_exec stE_exec ldE_execI stE_execI ldE_run ldE_box ldC_exec stC_exec ldC_execI stC_execI ldC_run oc_int oc_bool oc_string oc_slice oc_pointer
theorem row_shape11 {w : World} {B : Nat} {e : TypeId} {s n : Nat} {v : Value} {xs : List Value} (h : w.ownsRow B e s v n xs) : ∃ p n c, v = .slice p n c := by
  rcases h.2 with ⟨rfl, _⟩ | ⟨g, cap, cur, rfl, _⟩
  · exact ⟨_, _, _, rfl⟩
  · exact ⟨_, _, _, rfl⟩
end Go.Proofs.Ytephoegcpjdglaa
