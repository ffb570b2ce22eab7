import Derived.Test.YtephoegcpjdglaaDkBTo
import Derived.Test.YtephoegcpjdglaaW1
import Derived.WalkKit
import Derived.Test.YtephoegcpjdglaaRef7To
import Derived.Test.YtephoegcpjdglaaGet0To
import Derived.Laws.BytesArg
import Derived.Laws.StructEq
import Derived.Shelf.SlicesE.Kit
import Derived.Test.YtephoegcpjdglaaLd
namespace Go.Proofs.Ytephoegcpjdglaa
open Go.RowKit Go.Lib
attribute [local go_sem ↓] ldE_exec ldE_run stE_exec ldC_exec ldC_run stC_exec stC_run oc_int oc_bool oc_string oc_slice oc_pointer
abbrev em9 : ByteArray := ⟨#[]⟩

structure Cmd9 where
  k : Int
  s : Int
  q : Int
  key : ByteArray
  old : ByteArray
  val : ByteArray
  unt : ByteArray
  lim : Int

def Cmd9.arr (c : Cmd9) : Array Value := #[.int .i64 c.k, .int .i64 c.s, .int .i64 c.q, .string c.key, .string c.old, .string c.val, .string c.unt, .int .i64 c.lim]

def same9 (a b : Cmd9) : Bool := decide (a.k = b.k) && decide (a.s = b.s) && decide (a.q = b.q) && decide (a.key = b.key) && decide (a.old = b.old) && decide (a.val = b.val) && decide (a.unt = b.unt) && decide (a.lim = b.lim)
def isKey9 (s : ByteArray) : Bool := decide (1 ≤ s.size ∧ s.size ≤ 64)
def isVal9 (s : ByteArray) : Bool := decide (s.size ≤ 256)
def isBnd9 (s : ByteArray) : Bool := decide (s.size ≤ 64)
def isLim9 (n : Int) : Bool := decide (1 ≤ n ∧ n ≤ 64)
def asks9 (c n : Cmd9) : Bool := decide (1 ≤ c.s) && decide (1 ≤ c.q) && same9 c ⟨c.k, c.s, c.q, n.key, n.old, n.val, n.unt, n.lim⟩
def good9 (c : Cmd9) : Bool :=
  if c.k = 1 then same9 c ⟨1, 0, 0, em9, em9, em9, em9, 0⟩
  else if c.k = 2 then decide (1 ≤ c.s) && same9 c ⟨c.k, c.s, 0, em9, em9, em9, em9, 0⟩
  else if c.k = 3 then isKey9 c.key && isVal9 c.val && asks9 c ⟨0, 0, 0, c.key, em9, c.val, em9, 0⟩
  else if c.k = 4 ∨ c.k = 5 then isKey9 c.key && asks9 c ⟨0, 0, 0, c.key, em9, em9, em9, 0⟩
  else if c.k = 6 then isKey9 c.key && isVal9 c.old && isVal9 c.val && asks9 c ⟨0, 0, 0, c.key, c.old, c.val, em9, 0⟩
  else if c.k = 7 then isBnd9 c.key && isBnd9 c.unt && isLim9 c.lim && asks9 c ⟨0, 0, 0, c.key, em9, em9, c.unt, c.lim⟩
  else false
theorem toListC {a b : ByteArray} : a.toList = b.toList ↔ a = b := ⟨data_inj, fun h => by rw [h]⟩

set_option maxRecDepth 100000 in
set_option maxHeartbeats 1500000 in
theorem eqlC (k s q : Int) (a b c d : ByteArray) (l k' s' q' : Int) (a' b' c' d' : ByteArray) (l' : Int) (W : World) :
    Sem.run Try.prog (binOp .eql 46 (.agg #[.int .i64 k, .int .i64 s, .int .i64 q, .string a, .string b, .string c, .string d, .int .i64 l]) (.agg #[.int .i64 k', .int .i64 s', .int .i64 q', .string a', .string b', .string c', .string d', .int .i64 l'])) W
      = .ok (.bool (same9 ⟨k, s, q, a, b, c, d, l⟩ ⟨k', s', q', a', b', c', d', l'⟩)) W := by
  have u9 := Try.underlying9
  have a9 := Try.isAgg9
  have z9 := Try.sizeOf9
  have u3 := Try.underlying3
  have a3 := Try.isAgg3
  have z3 := Try.sizeOf3
  have hS : Try.prog.underlying 46 = some (.struct (Try.prog.fieldsOf 46)) := by kernel_rfl
  have hp : Try.prog.stoodInHeld 46 = false := by kernel_rfl
  rw [run_eql_struct, show (10000 : Nat) = 9999 + 1 from rfl, run_equalIn_agg W 9999 46 _ _ hS hp]
  simp only [Program.fieldsOf, Try.underlying46]
  go_simp
  unfold same9
  by_cases h1 : k = k'
  case neg => simp [h1]
  by_cases h2 : s = s'
  case neg => simp [h1, h2]
  by_cases h3 : q = q'
  case neg => simp [h1, h2, h3]
  by_cases h4 : a = a'
  case neg => simp [h1, h2, h3, h4, toListC]
  by_cases h5 : b = b'
  case neg => simp [h1, h2, h3, h4, h5, toListC]
  by_cases h6 : c = c'
  case neg => simp [h1, h2, h3, h4, h5, h6, toListC]
  by_cases h7 : d = d'
  case neg => simp [h1, h2, h3, h4, h5, h6, h7, toListC]
  by_cases h8 : l = l'
  case neg => simp [h1, h2, h3, h4, h5, h6, h7, h8]
  simp [h1, h2, h3, h4, h5, h6, h7, h8]

theorem grdC (op : BinOp) (o1 o2 : Operand) (x y : Array Value) (W : World) : Sem.run Try.prog (eqGuard op 46 o1 o2 (.agg x) (.agg y)) W = .ok () W :=
  run_eqGuard_agg W op 46 o1 o2 x y (by kernel_rfl)

def CmdAt (w : World) (b : Nat) (c : Cmd9) : Prop := w.heap[b]? = some (.cells c.arr 46 (0, 0))
theorem CmdAt.new (w : World) (c : Cmd9) : CmdAt (w.alloc (.cells c.arr 46)) w.heap.size c := heap_alloc_new w _
theorem CmdAt.below {w w' : World} {b : Nat} {c : Cmd9} (h : CmdAt w b c) (hb : Below w.heap.size w w') : CmdAt w' b c := (hb.block b (Array.getElem?_eq_some_iff.1 h).1).trans h
theorem CmdAt.lt {w : World} {b : Nat} {c : Cmd9} (h : CmdAt w b c) : b < w.heap.size := (Array.getElem?_eq_some_iff.1 h).1
theorem CmdAt.cells {w : World} {b : Nat} {c : Cmd9} (h : CmdAt w b c) :
    w.cell? ⟨b, 0, none⟩ = some (.int .i64 c.k) ∧ w.cell? ⟨b, 1, none⟩ = some (.int .i64 c.s) ∧ w.cell? ⟨b, 2, none⟩ = some (.int .i64 c.q) ∧ w.cell? ⟨b, 3, none⟩ = some (.string c.key) ∧
    w.cell? ⟨b, 4, none⟩ = some (.string c.old) ∧ w.cell? ⟨b, 5, none⟩ = some (.string c.val) ∧ w.cell? ⟨b, 6, none⟩ = some (.string c.unt) ∧ w.cell? ⟨b, 7, none⟩ = some (.int .i64 c.lim) := by
  unfold CmdAt at h
  refine ⟨?_, ?_, ?_, ?_, ?_, ?_, ?_, ?_⟩
  all_goals
    unfold World.cell?
    dsimp only
    rw [h]
    rfl

theorem not_empty9 {u : ByteArray} (hu : u ≠ ⟨#[]⟩) : u.toList.isEmpty = false := by
  cases h : u.toList.isEmpty with
  | false => rfl
  | true =>
    have h' : u.toList = [] := by simpa using h
    refine absurd (data_inj (b := ⟨#[]⟩) (h'.trans ?_)) hu
    rw [Lib.toList_data]

set_option maxRecDepth 100000 in
theorem isKey_any (s : ByteArray) (w : World) : Calls Try.prog 85 #[.string s] w fun e w' => e = .returned (.bool (isKey9 s)) ∧ w' = w := by
  by_cases h0 : s = ⟨#[]⟩
  · subst h0
    go_enter Try.func85, Try.ntmps85
    go_wp2
    go_ret
    exact ⟨rfl, rfl⟩
  · have h1 : s.toList.isEmpty = false := not_empty9 h0
    have h2 : 1 ≤ s.size := by
      rcases Nat.eq_zero_or_pos s.size with h | h
      · exact absurd (by obtain ⟨⟨l⟩⟩ := s; simp [ByteArray.size] at h; rw [h]) h0
      · exact h
    have HK : Hid (isKey9 s = decide ((s.size : Int) ≤ 64)) := by
      show _ = _
      unfold isKey9
      rw [decide_eq_decide]
      omega
    clear h0 h2
    go_enter Try.func85, Try.ntmps85
    go_wp2
    go_ret
    rw [HK.out]
    exact ⟨rfl, rfl⟩

set_option maxRecDepth 100000 in
theorem isValue_any (s : ByteArray) (w : World) : Calls Try.prog 86 #[.string s] w fun e w' => e = .returned (.bool (isVal9 s)) ∧ w' = w := by
  have HK : Hid (isVal9 s = decide ((s.size : Int) ≤ 256)) := by
    show _ = _
    unfold isVal9
    rw [decide_eq_decide]
    omega
  go_enter Try.func86, Try.ntmps86
  go_wp2
  go_ret
  rw [HK.out]
  exact ⟨rfl, rfl⟩

set_option maxRecDepth 100000 in
theorem isBound_any (s : ByteArray) (w : World) : Calls Try.prog 91 #[.string s] w fun e w' => e = .returned (.bool (isBnd9 s)) ∧ w' = w := by
  have HK : Hid (isBnd9 s = decide ((s.size : Int) ≤ 64)) := by
    show _ = _
    unfold isBnd9
    rw [decide_eq_decide]
    omega
  go_enter Try.func91, Try.ntmps91
  go_wp2
  go_ret
  rw [HK.out]
  exact ⟨rfl, rfl⟩

set_option maxRecDepth 100000 in
theorem isLimit_any (n : Int) (w : World) : Calls Try.prog 92 #[.int .i64 n] w fun e w' => e = .returned (.bool (isLim9 n)) ∧ w' = w := by
  by_cases h0 : 1 ≤ n
  · have HK : Hid (isLim9 n = decide (n ≤ 64)) := by
      show _ = _
      unfold isLim9
      rw [decide_eq_decide]
      omega
    go_enter Try.func92, Try.ntmps92
    go_wp2
    go_ret
    rw [HK.out]
    exact ⟨rfl, rfl⟩
  · have HK : Hid (isLim9 n = false) := by
      show _ = _
      unfold isLim9
      exact decide_eq_false (by omega)
    go_enter Try.func92, Try.ntmps92
    go_wp2
    go_ret
    rw [HK.out]
    exact ⟨rfl, rfl⟩
end Go.Proofs.Ytephoegcpjdglaa
