/-
  The walk of CommandReads.
-/
import Derived.Test.YtomhmoedicajoaaCmU
import Derived.Test.YtomhmoedicajoaaCmV
import Derived.Test.YtomhmoedicajoaaCmT
namespace Go.Proofs.Ytomhmoedicajoaa
open Go.RowKit

set_option maxRecDepth 100000 in
set_option maxHeartbeats 1500000 in
theorem reads_walk (a : Option Addr) (n cp : Nat) (xs : List Int) (hn : xs.length = n) (w : World) (hv : Has w (.slice a n cp) xs) (hB : IsB xs) (hs : n ≤ 140737488351232) :
    Calls Try.prog 4 #[.slice a n cp] w fun e w' => e = .returned (.bool true) ∧ Below w.heap.size w w' := by
  have k9 := fun w => lives_any w
  by_cases hlong : 10000 < n
  · clear hv hB hn
    go_enter Try.func4, Try.ntmps4
    go_wp2_with fail
    refine (k9 _).mono ?_
    rintro e w1 ⟨rfl, hb1⟩
    go_wp2
    go_ret
    exact ⟨rfl, hb1⟩
  · have k1 := fun W (h : Below w.heap.size w W) => readC_any (.slice a n cp) xs W (hv.below h (Nat.le_refl _)) hB (by omega)
    have k2 := fun W (h : Below w.heap.size w W) => rreadC_any (.slice a n cp) xs W (hv.below h (Nat.le_refl _)) hB (by omega)
    have he := eqlC
    have hg := grdC
    have hss := same9_self (readC9 xs).1
    generalize readC9 xs = R at *
    obtain ⟨⟨k, s, q, key, old, val, unt, lim⟩, err⟩ := R
    unfold Cmd9.arr at k1 k2
    dsimp only at k1 k2 hss
    clear hv hB hn
    go_enter Try.func4, Try.ntmps4
    go_wp2_with fail
    refine (k1 _ (Below.refl _ _)).mono ?_
    rintro e w1 ⟨rfl, hb1⟩
    have hA := CmdAt.new w1 ⟨k, s, q, key, old, val, unt, lim⟩
    have hb1' : Below w.heap.size w (w1.alloc (.cells (Cmd9.mk k s q key old val unt lim).arr 23)) := hb1.trans (((Below.refl _ _).alloc (Nat.le_refl _) _).mono hb1.size)
    have k3 := k2 _ hb1'
    unfold Cmd9.arr at hA hb1' k3
    dsimp only at hA hb1' k3
    clear k1 k2 hb1
    go_wp2_with fail
    generalize w1.alloc (.cells #[.int .i64 k, .int .i64 s, .int .i64 q, .string key, .string old, .string val, .string unt, .int .i64 lim] 23) = x1 at *
    refine k3.mono ?_
    rintro e w2 ⟨rfl, hb2⟩
    have hA2 := hA.below hb2
    have hlt := hA2.lt
    have hb2' := hb1'.trans (hb2.mono hb1'.size)
    obtain ⟨c0, c1, c2, c3, c4, c5, c6, c7⟩ := hA2.cells
    dsimp only at c0 c1 c2 c3 c4 c5 c6 c7
    have hb3 : Below w.heap.size w (w2.alloc (.cells #[.int .i64 k, .int .i64 s, .int .i64 q, .string key, .string old, .string val, .string unt, .int .i64 lim] 23)) := hb2'.trans (((Below.refl _ _).alloc (Nat.le_refl _) _).mono hb2'.size)
    clear k3 hA hA2 hb1' hb2 hb2'
    generalize w1.heap.size = b at *
    go_wp2_with fail
    generalize w2.alloc (.cells #[.int .i64 k, .int .i64 s, .int .i64 q, .string key, .string old, .string val, .string unt, .int .i64 lim] 23) = x2 at *
    refine (k9 _).mono ?_
    rintro e w3 ⟨rfl, hb4⟩
    go_wp2
    go_ret
    exact ⟨rfl, hb3.trans (hb4.mono hb3.size)⟩
end Go.Proofs.Ytomhmoedicajoaa
