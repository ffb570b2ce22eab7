import Derived.Test.YtefgnehahedckaaDkXTo
import Derived.Shelf.SlIter.Nil
import Derived.Shelf.SortM.Plain
import Derived.Shelf.SortM.SortNone
import Derived.Ground.GgzProg
import Derived.Ground.SlgmProg
import Derived.Test.YtefgnehahedckaaChecked
/-
  Contract: Spoil.
-/
namespace Go.Proofs.Ytefgnehahedckaa
open Go.RowKit Go.Maps

theorem flip_lies {w : World} {d : Nat} {S : Nat → Prop} {φ : ByteArray → Nat} {σ : ByteArray → Value} {mb : Nat} {vb : Value} {M : DM} {mn : Nat} {kv : Int} {x : ByteArray} {i : Nat} {y : Int} (hI : M.Inv) (hi : i < (M.bytes x).length)
    (h : Lies8 w d S φ σ mb vb { M.raw mn kv with bt := upd M.bytes x ((M.bytes x).set i (xor8 ((M.bytes x).getD i 0) y)) }) : Lies8 w d S φ σ mb vb ((M.flip x i y).raw mn kv) := by
  have hb := flip_bytes (M := M) y hi
  have hn := (hb x).2.2
  have hlen : ∀ z, ((M.flip x i y).bytes z).length = (M.bytes z).length := fun z => by
    rw [(hb z).1]
    by_cases hz : z = x
    · subst hz; rw [upd_at, List.length_set]
    · rw [upd_ne hz]
  have hbuf : wrs (M.flip x i y).buf = wrs M.buf ∧ tot (M.flip x i y).buf = tot M.buf := by
    unfold DM.flip
    split
    · exact ⟨rfl, rfl⟩
    · exact flipB_wrs _ _ _ _
  have hrest : (M.flip x i y).blocks = M.blocks ∧ (M.flip x i y).off = M.off ∧ (M.flip x i y).ops = M.ops ∧ (M.flip x i y).n = M.n ∧ (M.flip x i y).keep = M.keep := by
    unfold DM.flip
    split <;> exact ⟨rfl, rfl, rfl, rfl, rfl⟩
  have hnd := hI.nodup
  refine h.congr (fun z => by show z ∈ (M.flip x i y).names ↔ z ∈ M.names; rw [hn]) (fun z _ => (hb z).1) (fun z _ => (hb z).2.1) hbuf.1 rfl ?_ ?_ ?_ ?_ ?_ ?_ rfl
  · show ((tot (M.flip x i y).buf : Nat) : Int) = (tot M.buf : Nat)
    rw [hbuf.2]
  · show (((M.flip x i y).blocks : Nat) : Int) = (M.blocks : Nat)
    rw [hrest.1]
  · show (((M.flip x i y).used : Nat) : Int) = (M.used : Nat)
    unfold DM.used
    rw [used_sum (by rw [show nms (M.flip x i y).L = nms M.L from hn]; exact hnd), used_sum hnd, show nms (M.flip x i y).L = nms M.L from hn]
    congr 1
    exact sumN_congr fun z _ => congrArg need (hlen z)
  · show (!(M.flip x i y).off) = !M.off
    rw [hrest.2.1]
  · show (((M.flip x i y).ops : Nat) : Int) = (M.ops : Nat)
    rw [hrest.2.2.1]
  · show (((M.flip x i y).n : Nat) : Int) = (M.n : Nat)
    rw [hrest.2.2.2.1]
theorem xor_u8 (a b : Nat) (ha : a < 256) (hb : b < 256) : bits .xor .u8 (a : Int) (b : Int) = ((a ^^^ b : Nat) : Int) := by
  have hx : a ^^^ b < 2 ^ 8 := Nat.xor_lt_two_pow (by omega) (by omega)
  have h1 : (BitVec.ofInt 8 (a : Int)).toNat = a := by
    rw [BitVec.ofInt_natCast, BitVec.toNat_ofNat]; exact Nat.mod_eq_of_lt (by omega)
  have h2 : (BitVec.ofInt 8 (b : Int)).toNat = b := by
    rw [BitVec.ofInt_natCast, BitVec.toNat_ofNat]; exact Nat.mod_eq_of_lt (by omega)
  show IntKind.u8.wrap ((BitVec.ofInt 8 (a : Int) ^^^ BitVec.ofInt 8 (b : Int)).toNat : Int) = _
  rw [BitVec.toNat_xor, h1, h2, IntKind.wrap_u8]
  omega
theorem pow8 {k : Nat} (hk : k < 8) : 2 ^ k < 256 := Nat.lt_of_lt_of_le (Nat.pow_lt_pow_right (by decide) hk) (by decide)
theorem xor_bit {z : Int} (hz : 0 ≤ z ∧ z < 256) {k : Nat} (hk : k < 8) : bits .xor .u8 z ((2 : Int) ^ k % 256) = xor8 z ((2 ^ k : Nat) : Int) := by
  have hp := pow8 hk
  obtain ⟨a, rfl⟩ : ∃ a : Nat, z = a := ⟨z.toNat, by omega⟩
  have e : ((2 : Int) ^ k % 256) = ((2 ^ k : Nat) : Int) := by
    have : ((2 ^ k : Nat) : Int) = (2 : Int) ^ k := by simp
    rw [← this]
    exact Int.emod_eq_of_lt (Int.natCast_nonneg _) (Int.ofNat_lt.2 hp)
  rw [e, xor_u8 a (2 ^ k) (by omega) hp]
  unfold xor8
  rw [Int.toNat_natCast, Int.toNat_natCast]
/-- A byte of a file is stored. -/
theorem Lies8.setY {w : World} {d : Nat} {S : Nat → Prop} {φ : ByteArray → Nat} {σ : ByteArray → Value} {mb : Nat} {vb : Value} {R : RD} (h : Lies8 w d S φ σ mb vb R) {x : ByteArray} (hx : x ∈ R.names) {g n c : Nat} (hσ : σ x = .slice (some ⟨g, 0, none⟩) n c) (j : Nat) (z : Int) :
    Lies8 (w.setCell ⟨g, j, none⟩ (.int .u8 z)) d S φ σ mb vb { R with bt := upd R.bt x ((R.bt x).set j z) } := by
  have ho := h.row x hx
  rw [hσ] at ho
  have hn : n = (R.bt x).length := by
    rcases ho.2 with ⟨e, _⟩ | ⟨g', cap, cur, e, _⟩
    · cases e
    · simp only [Value.slice.injEq] at e; exact e.2.1
  subst hn
  obtain ⟨s1, s2⟩ := ho.store j z
  have hb : (σ x).ownBlock = some g := by rw [hσ]; rfl
  refine ⟨(heap_set_other fun e => h.dR hx (by rw [hb, e])).trans h.obj, h.map.same (heap_set_other fun e => h.mR hx (by rw [hb, e])), row_same h.buf fun k hk => heap_set_other fun e => h.rB hx hb (by rw [hk, e]), fun y hy => (heap_set_other fun e => h.fR hx hy (by rw [hb, e])).trans (h.file y hy), fun y hy => ?_, h.inj, h.apart, h.mem, h.sD, h.sM, h.sB, h.sF, h.sR⟩
  show Owns _ 0 _ (σ y) (upd R.bt x _ y)
  by_cases e : y = x
  · subst e
    rw [upd_at, hσ]
    rw [show (R.bt y).length = ((R.bt y).set j z).length by simp] at s1
    rw [show (R.bt y).length = ((R.bt y).set j z).length by simp]
    exact s1
  · rw [upd_ne e]
    exact row_same (h.row y hy) fun k hk => heap_set_other fun e1 => h.apart x hx y hy (Ne.symm e) g hb (by rw [hk, e1])
section
variable {w w' : World} {d : Nat} {S : Nat → Prop} {φ : ByteArray → Nat} {σ : ByteArray → Value} {mb : Nat} {vb : Value} {R : RD} {M : DM}
set_option maxRecDepth 10000 in
set_option maxHeartbeats 1000000 in
theorem spoil_any (hD : DiskAt w d S M) (hI : M.Inv) {x : ByteArray} (hs : x.size ≤ maxLen) (i b : Int) (hi : -9223372036854775808 ≤ i ∧ i ≤ 9223372036854775807) (hb : -9223372036854775808 ≤ b ∧ b ≤ 9223372036854775807) :
    Calls Try.prog 32 #[.pointer (some ⟨d, 0, none⟩), .string x, .int .i64 i, .int .i64 b] w fun e w' => e = .returned (.int .i64 ((M.spoil x i b).1 : Nat)) ∧ DiskAt w' d S (M.spoil x i b).2 ∧ Turn S w w' := by
  cases hf : M.off with
  | true =>
    have e : M.spoil x i b = (9, M) := by unfold DM.spoil; rw [if_pos hf]
    rw [e]
    have hr := findM_off hD x hf
    go_enter Try.func32, Try.ntmps32
    go_wp2_with fail
    refine same_mono hr ?_
    go_wp2
    go_ret
    exact ⟨rfl, hD, Turn.refl _ _⟩
  | false =>
    have hf' : ¬ M.off = true := by rw [hf]; decide
    by_cases hx : x ∈ M.names
    · have hD0 := hD
      obtain ⟨φ, σ, mb, vb, mn, kv, h, hkv⟩ := hD
      have hfi := findM_yes h hs hf hx
      obtain ⟨k0, -, -⟩ := h.fcells hx
      have ho := h.row x hx
      change Owns w 0 5 (σ x) (M.bytes x) at ho
      obtain ⟨px, cx, hσ⟩ := ho.shape
      rw [hσ] at k0 ho
      have Hσ : Hid (σ x = .slice px (M.bytes x).length cx) := hσ
      clear hσ
      have hsz := hI.size x
      have hisb := hI.isB x
      by_cases hbad : i < 0 ∨ ((M.bytes x).length : Int) ≤ i ∨ b < 0 ∨ 7 < b
      · have e : M.spoil x i b = (6, M) := by unfold DM.spoil; rw [if_neg hf', if_neg (fun h => h hx), if_pos hbad]
        rw [e]
        obtain ⟨n, Hn⟩ : ∃ n, Hid ((M.bytes x).length = n) := ⟨_, rfl⟩
        rw [Hn.out] at k0 hbad hsz
        clear Hσ ho hisb e
        by_cases h1 : i < 0
        · go_enter Try.func32, Try.ntmps32
          go_wp2_with fail
          refine same_mono hfi ?_
          go_wp2
          go_ret
          exact ⟨rfl, hD0, Turn.refl _ _⟩
        · have h1' : 0 ≤ i := by omega
          by_cases h2 : (n : Int) ≤ i
          · go_enter Try.func32, Try.ntmps32
            go_wp2_with fail
            refine same_mono hfi ?_
            go_wp2
            go_ret
            exact ⟨rfl, hD0, Turn.refl _ _⟩
          · have h2' : i < (n : Int) := by omega
            by_cases h3 : b < 0
            · go_enter Try.func32, Try.ntmps32
              go_wp2_with fail
              refine same_mono hfi ?_
              go_wp2
              go_ret
              exact ⟨rfl, hD0, Turn.refl _ _⟩
            · have h3' : 0 ≤ b := by omega
              have h4 : 7 < b := by omega
              go_enter Try.func32, Try.ntmps32
              go_wp2_with fail
              refine same_mono hfi ?_
              go_wp2
              go_ret
              exact ⟨rfl, hD0, Turn.refl _ _⟩
      · have e : M.spoil x i b = (0, M.flip x i.toNat ((2 ^ b.toNat : Nat) : Int)) := by unfold DM.spoil; rw [if_neg hf', if_neg (fun h => h hx), if_neg hbad]
        rw [e]
        obtain ⟨j, rfl⟩ : ∃ j : Nat, i = j := ⟨i.toNat, by omega⟩
        obtain ⟨k, rfl⟩ : ∃ k : Nat, b = k := ⟨b.toNat, by omega⟩
        rw [Int.toNat_natCast, Int.toNat_natCast]
        have hj : j < (M.bytes x).length := by omega
        have hk7 : k < 8 := by omega
        have hk7' : (k : Int) ≤ 7 := by omega
        obtain ⟨g, cap, e1, -, hgl, hcap, hcell, hfz⟩ := ho.form (by omega)
        simp only [Value.slice.injEq, true_and] at e1
        obtain ⟨rfl, rfl⟩ := e1
        have c0 := hcell j hj
        have f0 := hfz j
        have hz : 0 ≤ (M.bytes x).getD j 0 ∧ (M.bytes x).getD j 0 < 256 := by
          refine hisb _ ?_
          rw [List.getD_eq_getElem?_getD, List.getElem?_eq_getElem hj]
          exact List.getElem_mem hj
        obtain ⟨z, Hz⟩ : ∃ z, Hid ((M.bytes x).getD j 0 = z) := ⟨_, rfl⟩
        rw [Hz.out] at c0 hz
        obtain ⟨n, Hn⟩ : ∃ n, Hid ((M.bytes x).length = n) := ⟨_, rfl⟩
        have hj' := hj
        rw [Hn.out] at k0 hj' hcap
        clear hcell hbad e hfz hisb hi hb hsz
        have hjn : (j : Int) < n := by omega
        go_enter Try.func32, Try.ntmps32
        go_wp2_with fail
        refine same_mono hfi ?_
        go_wp2_with fail
        refine wp_last (by kernel_rfl) (by kernel_rfl) ?_
        dsimp only [initL, lastL]
        repeat (go_big_quiet_step (fail))
        refine wpQuiet_nil ?_
        rintro _ ⟨nq, rfl⟩
        have hxb := xor_bit hz hk7
        have h3 := (h.drewN nq).setY hx Hσ.out j (xor8 ((M.bytes x).getD j 0) ((2 ^ k : Nat) : Int))
        have t3 := ((Turn.refl S w).drewN nq).setCell (p := ⟨g, j, none⟩) (.inl (h.sR x hx g (by rw [Hσ.out]; rfl))) (.int .u8 (xor8 ((M.bytes x).getD j 0) ((2 ^ k : Nat) : Int)))
        have h4 := flip_lies hI hj h3
        rw [Hz.out] at h4 t3
        clear h3
        have hnk : (M.flip x j ((2 ^ k : Nat) : Int)).n = M.n ∧ (M.flip x j ((2 ^ k : Nat) : Int)).keep = M.keep := by
          unfold DM.flip
          split <;> exact ⟨rfl, rfl⟩
        generalize xor8 z ((2 ^ k : Nat) : Int) = zx at *
        gi_wp2
        go_wp2
        go_ret
        refine ⟨rfl, ⟨φ, σ, mb, vb, mn, kv, h4, fun h0 => ?_⟩, t3⟩
        rw [hnk.1] at h0
        rw [hnk.2]
        exact hkv h0
    · have e : M.spoil x i b = (4, M) := by unfold DM.spoil; rw [if_neg hf', if_pos hx]
      rw [e]
      have hr := findM_none hD hs hf hx
      go_enter Try.func32, Try.ntmps32
      go_wp2_with fail
      refine same_mono hr ?_
      go_wp2
      go_ret
      exact ⟨rfl, hD, Turn.refl _ _⟩
end
end Go.Proofs.Ytefgnehahedckaa

/-
  The library's contracts for 'slices.Sorted(maps.Keys(m))', laid at this program.
-/
namespace Go.Proofs.Ytefgnehahedckaa
open Go.RowKit Go.Maps Go.Sort Go.Shelf

shelf_lay_g SlLaysZ.n7 Ggz 7 at Try 63 as Try.keysL
shelf_lay_g SlLaysZ.n6 Ggz 6 at Try 62 as Try.sortedL
shelf_lay_g SlLaysM.n6 Slgm 6 at Try 75 as Try.sortL

theorem sortsL (m : Nat) : AnyZ.SortsIn Try.prog Try.sortedL_ren Fence.wide m :=
  ⟨fun blk off cap ss W hH hblk hsz => callsIn_wide.2 (AnyM.slices_Sort_string Try.sortL blk off cap ss W hH hblk hsz), fun p cap W => callsIn_wide.2 (AnyM.slices_Sort_string_none Try.sortL p cap W)⟩
theorem keys_L (mb : Option Nat) (W : World) : CallsIn Fence.wide 5 Try.prog 63 #[.map mb] W fun e w' => e = .returned (.func (.func 76) #[] #[.pointer (some ⟨W.heap.size, 0, none⟩)]) ∧ w' = W.alloc (.cells #[.map mb] 54) :=
  AnyZ.keys_in Try.keysL Fence.wide 5 trivial rfl mb W
set_option maxHeartbeats 1000000 in
theorem sorted_L {H : Type} (b nn : Nat) (D0 : DataW H) (R : Value → Option (DataW H × List MemPlace)) (w : World) (hown : w.ownsMap Try.prog 9 R b nn D0) (hmax : Maps.size D0 ≤ maxLen) (hbytes : Maps.size D0 * 16 ≤ 140737488355328) :
    CallsIn Fence.wide 5 Try.prog 62 #[.func (.func 76) #[] #[.pointer (some ⟨w.heap.size, 0, none⟩)]] (w.alloc (.cells #[.map (some b)] 54)) fun e w' => ∃ (v : Value) (ss : List (List UInt8)), e = .returned v ∧ ss.Perm (strKeys D0) ∧
      w'.ownsRow (w.alloc (.cells #[.map (some b)] 54)).heap.size 9 1 v ss.length ((ss.mergeSort (fun x y => decide (x ≤ y))).map encStr) ∧ (v = .slice none 0 0 ↔ ss = []) ∧ Below (w.alloc (.cells #[.map (some b)] 54)).heap.size (w.alloc (.cells #[.map (some b)] 54)) w' := by
  have hbl := hown.lt
  have hseq : SeqGives Fence.wide 2 Try.prog 76 #[.pointer (some ⟨w.heap.size, 0, none⟩)] encStr (fun ss => ss.Perm (strKeys D0)) (Maps.size D0) (w.alloc (.cells #[.map (some b)] 54)) :=
    AnyZ.keys_gives (ρ := Try.keysL_ren) { Try.keysL with } Fence.wide _ trivial rfl (by omega) w.heap.size b nn D0 _ (by simp) (by simp) (by
      obtain ⟨es, clock, hb, Ft, hs, hD⟩ := hown
      exact ⟨es, clock, (Below.heap_alloc _ _ b hbl).trans hb, Ft, hs, hD⟩)
  exact AnyZ.sorted_in Try.sortedL Fence.wide 5 trivial trivial trivial trivial rfl (by omega) (sortsL _) (enters_of Try.func75 (by kernel_rfl) rfl) 76 #[.pointer (some ⟨w.heap.size, 0, none⟩)] trivial (enters_of Try.func76 (by kernel_rfl) rfl) _ _ hmax hbytes _ hseq
end Go.Proofs.Ytefgnehahedckaa
