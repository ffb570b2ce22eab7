import Derived.Test.YtefgnehahedckaaDs4To
import Derived.Test.YtefgnehahedckaaDs5To
/-
  What always holds of a disk a bit of which is turned; a disk and the document's own, side by side.
-/
namespace Go.Proofs.Ytefgnehahedckaa
open Go.RowKit Go.Maps

theorem xor8_lt {z y : Int} (hz : 0 ≤ z ∧ z < 256) (hy : 0 ≤ y ∧ y < 256) : 0 ≤ xor8 z y ∧ xor8 z y < 256 := by
  unfold xor8
  have : z.toNat ^^^ y.toNat < 2 ^ 8 := Nat.xor_lt_two_pow (by omega) (by omega)
  omega
theorem isB8_set {xs : List Int} (h : isB8 xs) {z : Int} (hz : 0 ≤ z ∧ z < 256) (i : Nat) : isB8 (xs.set i z) := fun u hu => by
  rcases List.mem_or_eq_of_mem_set hu with hu | rfl
  · exact h u hu
  · exact hz
theorem isB8_getD {xs : List Int} (h : isB8 xs) (i : Nat) : 0 ≤ xs.getD i 0 ∧ xs.getD i 0 < 256 := by
  rw [List.getD_eq_getElem?_getD]
  cases hi : xs[i]? with
  | none => exact ⟨Int.le_refl _, by decide⟩
  | some z => exact h z (List.mem_of_getElem? hi)
theorem flipB_isB {y : Int} (hy : 0 ≤ y ∧ y < 256) : ∀ {buf : List (ByteArray × List Int)} (x : ByteArray) (i : Nat), (∀ w ∈ buf, isB8 w.2) → ∀ w ∈ flipB buf x i y, isB8 w.2
  | [], x, i, _, w, hw => by cases hw
  | v :: r, x, i, h, w, hw => by
    have hr : ∀ w ∈ r, isB8 w.2 := fun w hw => h w (List.mem_cons_of_mem _ hw)
    rw [flipB] at hw
    split at hw
    · split at hw
      · rcases List.mem_cons.1 hw with rfl | hw
        · exact isB8_set (h v List.mem_cons_self) (xor8_lt (isB8_getD (h v List.mem_cons_self) i) hy) i
        · exact hr w hw
      · rcases List.mem_cons.1 hw with rfl | hw
        · exact h _ List.mem_cons_self
        · exact flipB_isB hy x _ hr w hw
    · rcases List.mem_cons.1 hw with rfl | hw
      · exact h _ List.mem_cons_self
      · exact flipB_isB hy x _ hr w hw
theorem rise_nms {l : List (ByteArray × List Int)} : Rises l ↔ (nms l).Pairwise fun a b => ltT a b = true := by
  unfold Rises nms
  rw [List.pairwise_map]
theorem flip_used {M : DM} (hI : M.Inv) {x : ByteArray} {i : Nat} (y : Int) (hi : i < (M.bytes x).length) : (M.flip x i y).used = M.used := by
  have hn : nms (M.flip x i y).L = nms M.L := (flip_bytes (M := M) y hi x).2.2
  have hlen : ∀ z, ((M.flip x i y).bytes z).length = (M.bytes z).length := fun z => by
    rw [(flip_bytes (M := M) y hi z).1]
    by_cases e : z = x
    · rw [e, upd_at, List.length_set]
    · rw [upd_ne e]
  unfold DM.used
  rw [used_sum (by rw [hn]; exact hI.nodup), used_sum hI.nodup, hn]
  exact sumN_congr fun z _ => congrArg need (hlen z)
theorem DM.Inv.flip {M : DM} (h : M.Inv) {x : ByteArray} {i : Nat} {y : Int} (hy : 0 ≤ y ∧ y < 256) (hi : i < (M.bytes x).length) : (M.flip x i y).Inv := by
  have hn : nms (M.flip x i y).L = nms M.L := (flip_bytes (M := M) y hi x).2.2
  have hu := flip_used h y hi
  have hrest : (M.flip x i y).blocks = M.blocks ∧ (M.flip x i y).ops = M.ops := by unfold DM.flip; split <;> exact ⟨rfl, rfl⟩
  have hbuf : (∀ w ∈ (M.flip x i y).buf, ∃ v ∈ M.buf, v.1 = w.1) ∧ (M.flip x i y).buf.length = M.buf.length ∧ (∀ w ∈ (M.flip x i y).buf, isB8 w.2) ∧ ∀ f ∈ (M.flip x i y).L, isB8 f.2 := by
    unfold DM.flip
    split
    · refine ⟨fun w hw => ⟨w, hw, rfl⟩, rfl, h.isW, fun f hf => ?_⟩
      obtain ⟨g, hg, rfl⟩ := List.mem_map.1 hf
      split
      · exact isB8_set (h.isL g hg) (xor8_lt (isB8_getD (h.isL g hg) i) hy) i
      · exact h.isL g hg
    · have hw := (flipB_wrs M.buf x (i - (lk M.L x).length) y).1
      refine ⟨fun w hw2 => ?_, ?_, flipB_isB hy _ _ h.isW, h.isL⟩
      · have hm : (w.1, w.2.length) ∈ wrs (flipB M.buf x (i - (lk M.L x).length) y) := List.mem_map.2 ⟨w, hw2, rfl⟩
        rw [hw] at hm
        obtain ⟨v, hv, e, _⟩ := wrs_mem hm
        exact ⟨v, hv, e⟩
      · have := congrArg List.length hw
        unfold wrs at this
        rwa [List.length_map, List.length_map] at this
  obtain ⟨k1, k2, k3, k4⟩ := hbuf
  refine ⟨?_, ?_, ?_, k4, k3, ?_, ?_, ?_⟩
  · rw [rise_nms, hn, ← rise_nms]; exact h.rise
  · intro z hz
    refine h.good z ?_
    show z ∈ nms M.L
    rw [← hn]; exact hz
  · intro w hw
    obtain ⟨v, hv, e⟩ := k1 w hw
    show w.1 ∈ nms (M.flip x i y).L
    rw [hn, ← e]
    exact h.mem v hv
  · rw [hu, hrest.1]; exact h.fits
  · rw [hrest.1]; exact h.top
  · rw [k2, hrest.2]; exact h.few
theorem DM.OkN.spoil {c : Nat} {M : DM} (h : M.OkN c) (x : ByteArray) (i b : Int) : (M.spoil x i b).2.OkN c := by
  unfold DM.spoil
  split
  · exact h
  · split
    · exact h
    · split
      · exact h
      · rename_i hbad
        have hb : b.toNat < 8 := by omega
        have hp := pow8 hb
        have hrest : (M.flip x i.toNat ((2 ^ b.toNat : Nat) : Int)).ops = M.ops ∧ (M.flip x i.toNat ((2 ^ b.toNat : Nat) : Int)).n = M.n ∧ (M.flip x i.toNat ((2 ^ b.toNat : Nat) : Int)).keep = M.keep := by unfold DM.flip; split <;> exact ⟨rfl, rfl, rfl⟩
        refine ⟨h.inv.flip ⟨Int.natCast_nonneg _, by omega⟩ (by omega), ?_, ?_, ?_⟩
        · show (M.flip _ _ _).ops ≤ c; rw [hrest.1]; exact h.ops
        · show ((M.flip _ _ _).n : Int) ≤ _; rw [hrest.2.1]; exact h.n
        · show _ ≤ (M.flip _ _ _).keep ∧ (M.flip _ _ _).keep ≤ _; rw [hrest.2.2]; exact h.keep
/-- A disk M in blocks of S, the document's own, N, in blocks of G. -/
structure Two8 (w0 w : World) (d r : Nat) (S G : Nat → Prop) (M N : DM) : Prop where
  disk : Disk8 w0 w d S M
  ref : RefAt w r G N
  own : ∀ k, G k → w0.heap.size ≤ k ∧ k < w.heap.size
  apart : ∀ k, S k → ¬ G k
/-- The same, and some blocks that stay as they were. -/
def Duo8 (w0 wB w : World) (F : Nat → Prop) (d r : Nat) (M N : DM) : Prop :=
  ∃ S G, Two8 w0 w d r S G M N ∧ wB.heap.size ≤ w.heap.size ∧ ∀ k, F k → k < wB.heap.size ∧ ¬ S k ∧ ¬ G k ∧ w.heap[k]? = wB.heap[k]?
section
variable {w0 wB w w' : World} {F : Nat → Prop} {d r : Nat} {S G : Nat → Prop} {M M' N N' : DM}
theorem Two8.below (h : Two8 w0 w d r S G M N) (hb : Below w.heap.size w w') : Two8 w0 w' d r S G M N :=
  ⟨h.disk.below hb, h.ref.below hb, fun k hk => ⟨(h.own k hk).1, Nat.lt_of_lt_of_le (h.own k hk).2 hb.size⟩, h.apart⟩
theorem Two8.duo (h : Two8 w0 w d r S G M N) (hb : Below w.heap.size w wB) (hF : ∀ k, F k → w.heap.size ≤ k ∧ k < wB.heap.size) : Duo8 w0 wB wB F d r M N :=
  ⟨S, G, h.below hb, Nat.le_refl _, fun k hk => ⟨(hF k hk).2, fun hs => by have := (h.disk.own k hs).2; have := (hF k hk).1; omega, fun hs => by have := (h.own k hs).2; have := (hF k hk).1; omega, rfl⟩⟩
theorem Duo8.two (h : Duo8 w0 wB w F d r M N) : ∃ S G, Two8 w0 w d r S G M N := by
  obtain ⟨S, G, h1, -⟩ := h
  exact ⟨S, G, h1⟩
theorem Duo8.below (h : Duo8 w0 wB w F d r M N) (hb : Below w.heap.size w w') : Duo8 w0 wB w' F d r M N := by
  obtain ⟨S, G, h1, h2, h3⟩ := h
  exact ⟨S, G, h1.below hb, Nat.le_trans h2 hb.size, fun k hk => ⟨(h3 k hk).1, (h3 k hk).2.1, (h3 k hk).2.2.1, (hb.block k (Nat.lt_of_lt_of_le (h3 k hk).1 h2)).trans (h3 k hk).2.2.2⟩⟩
theorem Duo8.cell (h : Duo8 w0 wB w F d r M N) {b i : Nat} (hb : F b) : w.cell? ⟨b, i, none⟩ = wB.cell? ⟨b, i, none⟩ := by
  obtain ⟨S, G, h1, h2, h3⟩ := h
  exact World.cell?_of_block (h3 b hb).2.2.2
theorem Duo8.has (h : Duo8 w0 wB w F d r M N) {b o n c : Nat} (hb : F b) {xs : List Int} (hx : Has wB (.slice (some ⟨b, o, none⟩) n c) xs) : Has w (.slice (some ⟨b, o, none⟩) n c) xs := by
  obtain ⟨p, c', e, k1, k2, k3⟩ := hx
  simp only [Value.slice.injEq] at e
  obtain ⟨rfl, rfl, rfl⟩ := e
  refine ⟨_, _, rfl, k1, k2, fun h0 => ?_⟩
  obtain ⟨b', o', e, hlt, hc⟩ := k3 h0
  simp only [Option.some.injEq, Addr.mk.injEq] at e
  obtain ⟨rfl, rfl, _⟩ := e
  refine ⟨b, o, rfl, ?_, fun i hi => (h.cell hb).trans (hc i hi)⟩
  obtain ⟨S, G, h1, h2, h3⟩ := h
  exact Nat.lt_of_lt_of_le hlt h2
theorem Duo8.bel (h : Duo8 w0 wB w F d r M N) : Below w0.heap.size w0 w := by
  obtain ⟨S, G, h1, -⟩ := h
  exact h1.disk.bel
/-- A call of the disk. -/
theorem Duo8.disk_op {P : Program} {f : FuncId} {args : Array Value} {A : Ending → Prop} (h : Duo8 w0 wB w F d r M N) (hc : ∀ S, Disk8 w0 w d S M → (∀ k, F k → ¬ S k) → Calls P f args w fun e w' => A e ∧ Disk8 w0 w' d (more8 S w w') M' ∧ Turn S w w') :
    Calls P f args w fun e w' => A e ∧ Duo8 w0 wB w' F d r M' N := by
  obtain ⟨S, G, h1, h2, h3⟩ := h
  refine (hc S h1.disk fun k hk => (h3 k hk).2.1).mono ?_
  rintro e w' ⟨he, hD, ht⟩
  have hm : ∀ k, k < w.heap.size → ¬ S k → ¬ more8 S w w' k := fun k hk hs hmm => hmm.elim hs fun h => by omega
  refine ⟨he, more8 S w w', G, ⟨hD, h1.ref.same fun k hk hg => ht.block k hk fun hs => h1.apart k hs hg, fun k hk => ⟨(h1.own k hk).1, Nat.lt_of_lt_of_le (h1.own k hk).2 ht.size⟩, fun k hk hg => hm k (h1.own k hg).2 (fun hs => h1.apart k hs hg) hk⟩, Nat.le_trans h2 ht.size, fun k hk => ?_⟩
  have hk' : k < w.heap.size := Nat.lt_of_lt_of_le (h3 k hk).1 h2
  exact ⟨(h3 k hk).1, hm k hk' (h3 k hk).2.1, (h3 k hk).2.2.1, (ht.block k hk' (h3 k hk).2.1).trans (h3 k hk).2.2.2⟩
/-- A call of the document's own. -/
theorem Duo8.ref_op {P : Program} {f : FuncId} {args : Array Value} {A : Ending → Prop} (h : Duo8 w0 wB w F d r M N) (hc : ∀ T, RefAt w r T N → (∀ k, w.heap.size ≤ k → T k) → (∀ k, k < w0.heap.size → ¬ T k) → Calls P f args w fun e w' => A e ∧ RefAt w' r T N' ∧ Turn T w w') :
    Calls P f args w fun e w' => A e ∧ Duo8 w0 wB w' F d r M N' := by
  obtain ⟨S, G, h1, h2, h3⟩ := h
  have hz := h1.disk.bel.size
  refine (hc (wide8 G w) (h1.ref.mono fun _ _ hk => .inl hk) (fun _ hk => .inr hk) fun k hk hs => by
    rcases hs with hs | hs
    · have := (h1.own k hs).1; omega
    · omega).mono ?_
  rintro e w' ⟨he, hR, ht0⟩
  have ht : Turn G w w' := ht0.mono fun k hk => hk
  have hm : ∀ k, k < w.heap.size → ¬ G k → ¬ more8 G w w' k := fun k hk hs hmm => hmm.elim hs fun h => by omega
  refine ⟨he, S, more8 G w w', ⟨h1.disk.turn ht h1.apart (fun k hk => (h1.own k hk).1), hR.mono fun k hk hs => hs.imp id fun h => ⟨h, hk⟩, fun k hk => ?_, fun k hk hg => hm k (h1.disk.own k hk).2 (h1.apart k hk) hg⟩, Nat.le_trans h2 ht.size, fun k hk => ?_⟩
  · rcases hk with hk | hk
    · exact ⟨(h1.own k hk).1, Nat.lt_of_lt_of_le (h1.own k hk).2 ht.size⟩
    · exact ⟨by omega, hk.2⟩
  · have hk' : k < w.heap.size := Nat.lt_of_lt_of_le (h3 k hk).1 h2
    exact ⟨(h3 k hk).1, (h3 k hk).2.1, hm k hk' (h3 k hk).2.2.1, (ht.block k hk' (h3 k hk).2.2.1).trans (h3 k hk).2.2.2⟩
theorem hasX_old {T : Nat → Prop} (hb : Below w0.heap.size w0 w) (hT : ∀ k, k < w0.heap.size → ¬ T k) {v : Value} {xs : List Int} (hv : Has w0 v xs) : HasX w T v xs := by
  obtain ⟨p, c, rfl, h1, h2, h3⟩ := hv
  refine ⟨p, c, rfl, h1, h2, fun h0 => ?_⟩
  obtain ⟨b, o, rfl, hlt, hc⟩ := h3 h0
  exact ⟨b, o, rfl, hT b hlt, Nat.lt_of_lt_of_le hlt hb.size, fun i hi => (hb.cell (p := ⟨b, o + i, none⟩) hlt).trans (hc i hi)⟩
end
section
variable {w0 wB w : World} {F : Nat → Prop} {d r c : Nat} {M N : DM}
theorem Duo8.create (h : Duo8 w0 wB w F d r M N) (hO : M.OkN c) (hc : c < 1099511627776) {x : ByteArray} (hs : x.size ≤ maxLen) : Calls Try.prog 17 #[.pointer (some ⟨d, 0, none⟩), .string x] w fun e w' => e = .returned (.int .i64 ((M.create x).1 : Nat)) ∧ Duo8 w0 wB w' F d r (M.create x).2 N := h.disk_op fun _ hD _ => hD.create hO hc hs
theorem Duo8.sync (h : Duo8 w0 wB w F d r M N) (hO : M.OkN c) (hc : c < 1099511627776) : Calls Try.prog 18 #[.pointer (some ⟨d, 0, none⟩)] w fun e w' => e = .returned (.int .i64 (M.syncs.1 : Nat)) ∧ Duo8 w0 wB w' F d r M.syncs.2 N := h.disk_op fun _ hD _ => hD.sync hO hc
theorem Duo8.rename (h : Duo8 w0 wB w F d r M N) (hO : M.OkN c) (hc : c < 1099511627776) {a b : ByteArray} (hsa : a.size ≤ maxLen) (hsb : b.size ≤ maxLen) : Calls Try.prog 25 #[.pointer (some ⟨d, 0, none⟩), .string a, .string b] w fun e w' => e = .returned (.int .i64 ((M.rename a b).1 : Nat)) ∧ Duo8 w0 wB w' F d r (M.rename a b).2 N := h.disk_op fun _ hD _ => hD.rename hO hc hsa hsb
theorem Duo8.remove (h : Duo8 w0 wB w F d r M N) (hO : M.OkN c) (hc : c < 1099511627776) {x : ByteArray} (hs : x.size ≤ maxLen) : Calls Try.prog 26 #[.pointer (some ⟨d, 0, none⟩), .string x] w fun e w' => e = .returned (.int .i64 ((M.remove x).1 : Nat)) ∧ Duo8 w0 wB w' F d r (M.remove x).2 N := h.disk_op fun _ hD _ => hD.remove hO hc hs
theorem Duo8.arm (h : Duo8 w0 wB w F d r M N) (n k : Int) (hn : -9223372036854775808 ≤ n ∧ n ≤ 9223372036854775807) : Calls Try.prog 28 #[.pointer (some ⟨d, 0, none⟩), .int .i64 n, .int .i64 k] w fun e w' => e = .returned (.int .i64 ((M.arm n k).1 : Nat)) ∧ Duo8 w0 wB w' F d r (M.arm n k).2 N := h.disk_op fun _ hD _ => hD.arm n k hn
theorem Duo8.crash (h : Duo8 w0 wB w F d r M N) (hO : M.OkN c) (hc : c < 1099511627776) (k : Int) (hk : -9223372036854775808 ≤ k ∧ k ≤ 9223372036854775807) : Calls Try.prog 21 #[.pointer (some ⟨d, 0, none⟩), .int .i64 k] w fun e w' => (∃ v, e = .returned v) ∧ Duo8 w0 wB w' F d r (M.crash k) N := h.disk_op fun _ hD _ => hD.crash hO hc k hk
theorem Duo8.start (h : Duo8 w0 wB w F d r M N) : Calls Try.prog 22 #[.pointer (some ⟨d, 0, none⟩)] w fun e w' => (∃ v, e = .returned v) ∧ Duo8 w0 wB w' F d r M.start N := h.disk_op fun _ hD _ => hD.start
theorem Duo8.spoil (h : Duo8 w0 wB w F d r M N) (hI : M.Inv) {x : ByteArray} (hs : x.size ≤ maxLen) (i b : Int) (hi : -9223372036854775808 ≤ i ∧ i ≤ 9223372036854775807) (hb : -9223372036854775808 ≤ b ∧ b ≤ 9223372036854775807) : Calls Try.prog 32 #[.pointer (some ⟨d, 0, none⟩), .string x, .int .i64 i, .int .i64 b] w fun e w' => e = .returned (.int .i64 ((M.spoil x i b).1 : Nat)) ∧ Duo8 w0 wB w' F d r (M.spoil x i b).2 N := h.disk_op fun _ hD _ => hD.spoil hI hs i b hi hb
theorem Duo8.append (h : Duo8 w0 wB w F d r M N) (hO : M.OkN c) (hc : c < 1099511627776) {x : ByteArray} (hs : x.size ≤ maxLen) {lb o n cc : Nat} {bs : List Int} (hF : F lb) (hb : Has wB (.slice (some ⟨lb, o, none⟩) n cc) bs) (hbl : bs.length ≤ 1099511627776) : Calls Try.prog 20 #[.pointer (some ⟨d, 0, none⟩), .string x, .slice (some ⟨lb, o, none⟩) n cc] w fun e w' => e = .returned (.int .i64 ((M.append x bs).1 : Nat)) ∧ Duo8 w0 wB w' F d r (M.append x bs).2 N :=
  h.disk_op fun _ hD hn => hD.append hO hc hs (HasX.of_has (h.has hF hb) (hn lb hF)) hbl
theorem Duo8.rcreate (h : Duo8 w0 wB w F d r M N) (hO : N.OkN c) (hc : c < 1099511627776) {x : ByteArray} (hs : x.size ≤ maxLen) : Calls Try.prog 33 #[.pointer (some ⟨r, 0, none⟩), .string x] w fun e w' => e = .returned (.int .i64 ((N.create x).1 : Nat)) ∧ Duo8 w0 wB w' F d r M (N.create x).2 := h.ref_op fun _ hR hT _ => rcreate_any hR (hO.ok hc) hT hs
theorem Duo8.rsync (h : Duo8 w0 wB w F d r M N) (hO : N.OkN c) (hc : c < 1099511627776) : Calls Try.prog 37 #[.pointer (some ⟨r, 0, none⟩)] w fun e w' => e = .returned (.int .i64 (N.syncs.1 : Nat)) ∧ Duo8 w0 wB w' F d r M N.syncs.2 := h.ref_op fun _ hR hT _ => rsync_any hR (hO.ok hc) hT
theorem Duo8.rrename (h : Duo8 w0 wB w F d r M N) (hO : N.OkN c) (hc : c < 1099511627776) {a b : ByteArray} (hsb : b.size ≤ maxLen) : Calls Try.prog 38 #[.pointer (some ⟨r, 0, none⟩), .string a, .string b] w fun e w' => e = .returned (.int .i64 ((N.rename a b).1 : Nat)) ∧ Duo8 w0 wB w' F d r M (N.rename a b).2 := h.ref_op fun _ hR hT _ => rrename_any hR (hO.ok hc) hT hsb
theorem Duo8.rremove (h : Duo8 w0 wB w F d r M N) (hO : N.OkN c) (hc : c < 1099511627776) (x : ByteArray) : Calls Try.prog 39 #[.pointer (some ⟨r, 0, none⟩), .string x] w fun e w' => e = .returned (.int .i64 ((N.remove x).1 : Nat)) ∧ Duo8 w0 wB w' F d r M (N.remove x).2 := h.ref_op fun _ hR hT _ => rremove_any hR (hO.ok hc) hT x
theorem Duo8.rarm (h : Duo8 w0 wB w F d r M N) (n k : Int) : Calls Try.prog 42 #[.pointer (some ⟨r, 0, none⟩), .int .i64 n, .int .i64 k] w fun e w' => e = .returned (.int .i64 ((N.arm n k).1 : Nat)) ∧ Duo8 w0 wB w' F d r M (N.arm n k).2 := h.ref_op fun _ hR _ _ => rarm_any hR n k
theorem Duo8.rcrash (h : Duo8 w0 wB w F d r M N) (hO : N.OkN c) (hc : c < 1099511627776) (k : Int) (hk : -9223372036854775808 ≤ k ∧ k ≤ 9223372036854775807) : Calls Try.prog 43 #[.pointer (some ⟨r, 0, none⟩), .int .i64 k] w fun e w' => (∃ v, e = .returned v) ∧ Duo8 w0 wB w' F d r M (N.crash k) := h.ref_op fun _ hR hT _ => rcrash_any hR hO.inv (by have := hO.ops; omega) hT k hk
theorem Duo8.rstart (h : Duo8 w0 wB w F d r M N) : Calls Try.prog 44 #[.pointer (some ⟨r, 0, none⟩)] w fun e w' => (∃ v, e = .returned v) ∧ Duo8 w0 wB w' F d r M N.start := h.ref_op fun _ hR _ _ => rstart_any hR
theorem Duo8.rspoil (h : Duo8 w0 wB w F d r M N) (hO : N.OkN c) (hc : c < 1099511627776) (x : ByteArray) (i b : Int) (hi : -9223372036854775808 ≤ i ∧ i ≤ 9223372036854775807) (hb : -9223372036854775808 ≤ b ∧ b ≤ 9223372036854775807) : Calls Try.prog 45 #[.pointer (some ⟨r, 0, none⟩), .string x, .int .i64 i, .int .i64 b] w fun e w' => e = .returned (.int .i64 ((N.spoil x i b).1 : Nat)) ∧ Duo8 w0 wB w' F d r M (N.spoil x i b).2 := h.ref_op fun _ hR hT _ => rspoil_any hR (hO.ok hc) hT x i b hi hb
theorem Duo8.rappend (h : Duo8 w0 wB w F d r M N) (hO : N.OkN c) (hc : c < 1099511627776) (x : ByteArray) {v : Value} {bs : List Int} (hb : Has w0 v bs) (hbl : bs.length ≤ 1099511627776) : Calls Try.prog 35 #[.pointer (some ⟨r, 0, none⟩), .string x, v] w fun e w' => e = .returned (.int .i64 ((N.append x bs).1 : Nat)) ∧ Duo8 w0 wB w' F d r M (N.append x bs).2 := h.ref_op fun _ hR hT h0 => rappend_any hR (hO.ok hc) hT x (hasX_old h.bel h0 hb) hbl
end
end Go.Proofs.Ytefgnehahedckaa

/-
  Contracts: corbellaw08.act, of a disk and the document's own that are alike.
-/
namespace Go.Proofs.Ytefgnehahedckaa
open Go.RowKit Go.Maps

/-- What an act makes of a disk. -/
def DM.acted (M : DM) (x : Act8) : DM :=
  if x.kind = 0 then (M.create x.a).2 else if x.kind = 1 then (M.append x.a x.data).2 else if x.kind = 2 then M.syncs.2 else if x.kind = 3 then (M.rename x.a x.b).2 else if x.kind = 4 then (M.remove x.a).2
  else if x.kind = 6 then (M.arm x.n x.k).2 else if x.kind = 7 then M.crash x.n else if x.kind = 8 then M.start else if x.kind = 9 then (M.spoil x.a x.n x.k).2 else M
theorem DM.OkN.acted {c : Nat} {M : DM} (h : M.OkN c) {w : World} {x : Act8} (hx : Fits8 w x) : (M.acted x).OkN (c + 1) := by
  unfold DM.acted
  split
  · exact h.create x.a
  split
  · exact h.append x.a hx.isB
  split
  · exact h.syncs
  split
  · exact h.rename x.a x.b
  split
  · exact h.remove x.a
  split
  · exact (h.arm x.n x.k hx.n.2 hx.k).mono (Nat.le_succ _)
  split
  · exact (h.crash x.n).mono (Nat.le_succ _)
  split
  · exact h.start.mono (Nat.le_succ _)
  split
  · exact (h.spoil x.a x.n x.k).mono (Nat.le_succ _)
  · exact h.mono (Nat.le_succ _)
theorem readB_isB {M : DM} (h : M.Inv) (x : ByteArray) : isB8 (M.readB x) := by
  unfold DM.readB
  split
  · exact isB8_nil
  split
  · exact isB8_nil
  · exact h.isB x
theorem keepF {w0 wB w : World} {d r b i : Nat} {M N : DM} {v : Value} (h : Duo8 w0 wB w (fun k => k = b) d r M N) (ha : wB.cell? ⟨b, i, none⟩ = some v) : w.cell? ⟨b, i, none⟩ = some v := (h.cell rfl).trans ha
theorem keepG {w0 wB w : World} {d r b lb i : Nat} {M N : DM} {v : Value} (h : Duo8 w0 wB w (fun k => k = b ∨ k = lb) d r M N) (ha : wB.cell? ⟨b, i, none⟩ = some v) : w.cell? ⟨b, i, none⟩ = some v := (h.cell (.inl rfl)).trans ha
theorem Duo8.cell1 {w0 wB w : World} {F : Nat → Prop} {d r b i : Nat} {M N : DM} {v : Value} (h : Duo8 w0 wB w F d r M N) (hb : F b) (ha : wB.cell? ⟨b, i, none⟩ = some v) : w.cell? ⟨b, i, none⟩ = some v := (h.cell hb).trans ha
section
variable {w0 w : World} {d r c : Nat} {M : DM}
set_option maxRecDepth 10000 in
set_option maxHeartbeats 8000000 in
theorem act_any8 {S G : Nat → Prop} (h : Two8 w0 w d r S G M M) (hO : M.OkN c) (hc : c < 1099511627776) (kd : Int) (ka kb : ByteArray) (kp : Option Addr) (kc : Nat) (kdat : List Int) (kn kk : Int) (hx : Fits8 w0 ⟨kd, ka, kb, kp, kc, kdat, kn, kk⟩) (hsd : kdat.length ≤ 15000) (hsa : ka.size ≤ maxLen) (hsb : kb.size ≤ maxLen) :
    Calls Try.prog 13 #[.pointer (some ⟨d, 0, none⟩), .pointer (some ⟨r, 0, none⟩), .agg #[.int .i64 kd, .string ka, .string kb, .slice kp kdat.length kc, .int .i64 kn, .int .i64 kk]] w fun e w' => e = .returned (.bool true) ∧ ∃ S' G', Two8 w0 w' d r S' G' (M.acted ⟨kd, ka, kb, kp, kc, kdat, kn, kk⟩) (M.acted ⟨kd, ka, kb, kp, kc, kdat, kn, kk⟩) := by
  have hal := (Below.refl w.heap.size w).alloc (Nat.le_refl _) (.cells #[.int .i64 kd, .string ka, .string kb, .slice kp kdat.length kc, .int .i64 kn, .int .i64 kk] 31)
  have hA := heap_alloc_new w (.cells #[.int .i64 kd, .string ka, .string kb, .slice kp kdat.length kc, .int .i64 kn, .int .i64 kk] 31)
  have hlt : w.heap.size < (w.alloc (.cells #[.int .i64 kd, .string ka, .string kb, .slice kp kdat.length kc, .int .i64 kn, .int .i64 kk] 31)).heap.size := by simp
  have hD := h.duo (F := fun k => k = w.heap.size) hal fun k hk => ⟨by omega, by omega⟩
  have a1 : (w.alloc (.cells #[.int .i64 kd, .string ka, .string kb, .slice kp kdat.length kc, .int .i64 kn, .int .i64 kk] 31)).cell? ⟨w.heap.size, 1, none⟩ = some (.string ka) := cell_of hA rfl
  have a2 : (w.alloc (.cells #[.int .i64 kd, .string ka, .string kb, .slice kp kdat.length kc, .int .i64 kn, .int .i64 kk] 31)).cell? ⟨w.heap.size, 2, none⟩ = some (.string kb) := cell_of hA rfl
  have a3 : (w.alloc (.cells #[.int .i64 kd, .string ka, .string kb, .slice kp kdat.length kc, .int .i64 kn, .int .i64 kk] 31)).cell? ⟨w.heap.size, 3, none⟩ = some (.slice kp kdat.length kc) := cell_of hA rfl
  have a4 : (w.alloc (.cells #[.int .i64 kd, .string ka, .string kb, .slice kp kdat.length kc, .int .i64 kn, .int .i64 kk] 31)).cell? ⟨w.heap.size, 4, none⟩ = some (.int .i64 kn) := cell_of hA rfl
  have a5 : (w.alloc (.cells #[.int .i64 kd, .string ka, .string kb, .slice kp kdat.length kc, .int .i64 kn, .int .i64 kk] 31)).cell? ⟨w.heap.size, 5, none⟩ = some (.int .i64 kk) := cell_of hA rfl
  obtain ⟨hhas, hisB, _, _, _, hkd, hkn, hkk⟩ := hx
  dsimp only at hhas hisB hkd hkn hkk
  unfold in64 at hkd hkn hkk
  have hkd' : kd = 0 ∨ kd = 1 ∨ kd = 2 ∨ kd = 3 ∨ kd = 4 ∨ kd = 5 ∨ kd = 6 ∨ kd = 7 ∨ kd = 8 ∨ kd = 9 ∨ (¬ kd = 0 ∧ ¬ kd = 1 ∧ ¬ kd = 2 ∧ ¬ kd = 3 ∧ ¬ kd = 4 ∧ ¬ kd = 5 ∧ ¬ kd = 6 ∧ ¬ kd = 7 ∧ ¬ kd = 8 ∧ ¬ kd = 9) := by omega
  clear hA
  rcases hkd' with q | q | q | q | q | q | q | q | q | q | ⟨q0, q1, q2, q3, q4, q5, q6, q7, q8, q9⟩
  · subst q
    have e1 : Hid (M.acted ⟨0, ka, kb, kp, kc, kdat, kn, kk⟩ = (M.create ka).2) := rfl
    have hD1 := hD.below (ext_drew8 _)
    have hc1 := hD1.create hO hc hsa
    have hc2 := fun w1 (h1 : Duo8 w0 (w.alloc (.cells #[.int .i64 0, .string ka, .string kb, .slice kp kdat.length kc, .int .i64 kn, .int .i64 kk] 31)) w1 (fun k => k = w.heap.size) d r (M.create ka).2 M) => h1.rcreate hO hc hsa
    have hc3 : Hid _ := hc2
    clear hc2
    clear hD hD1 h a2 a3 a4 a5
    go_enter Try.func13, Try.ntmps13
    go_wp2_with fail
    generalize w.alloc (.cells #[.int .i64 0, .string ka, .string kb, .slice kp kdat.length kc, .int .i64 kn, .int .i64 kk] 31) = W at *
    generalize w.heap.size = ab at *
    generalize M.create ka = pr at *
    go_region_held3 (fun w' => w'.cell? ⟨ab, 1, none⟩ = some (.string ka))
      (first | exact a1 | exact keepF (by assumption) a1)
      (first
        | (go_at_call 17; refine hc1.mono ?_; rintro e w1 ⟨rfl, h1⟩)
        | (go_at_call 33; refine (hc3.out _ h1).mono ?_; rintro e w2 ⟨rfl, h2⟩))
    go_wp2
    go_ret
    obtain ⟨S', G', k2⟩ := h2.two
    exact ⟨by simp, S', G', by rw [e1.out]; exact k2⟩
  · subst q
    have e1 : Hid (M.acted ⟨1, ka, kb, kp, kc, kdat, kn, kk⟩ = (M.append ka kdat).2) := rfl
    have hle := lend_any8 _ kdat (w.alloc (.cells #[.int .i64 1, .string ka, .string kb, .slice kp kdat.length kc, .int .i64 kn, .int .i64 kk] 31)) (hhas.below hD.bel (Nat.le_refl _)) (by omega)
    have hmk : Hid (∀ W2, Below (w.alloc (.cells #[.int .i64 1, .string ka, .string kb, .slice kp kdat.length kc, .int .i64 kn, .int .i64 kk] 31)).heap.size (w.alloc (.cells #[.int .i64 1, .string ka, .string kb, .slice kp kdat.length kc, .int .i64 kn, .int .i64 kk] 31)) W2 → (w.alloc (.cells #[.int .i64 1, .string ka, .string kb, .slice kp kdat.length kc, .int .i64 kn, .int .i64 kk] 31)).heap.size < W2.heap.size → Duo8 w0 W2 W2 (fun k => k = w.heap.size ∨ k = (w.alloc (.cells #[.int .i64 1, .string ka, .string kb, .slice kp kdat.length kc, .int .i64 kn, .int .i64 kk] 31)).heap.size) d r M M) := fun W2 hb2 hl2 => h.duo (hal.trans (hb2.mono hal.size)) fun k hk => by
      rcases hk with rfl | rfl
      · exact ⟨Nat.le_refl _, Nat.lt_trans hlt hl2⟩
      · exact ⟨Nat.le_of_lt hlt, hl2⟩
    have hold : Hid (Has w0 (.slice kp kdat.length kc) kdat) := hhas
    have hO' : Hid (M.OkN c) := hO
    clear hD h a2 a4 a5 hhas hO
    go_enter Try.func13, Try.ntmps13
    go_wp2_with fail
    generalize w.alloc (.cells #[.int .i64 1, .string ka, .string kb, .slice kp kdat.length kc, .int .i64 kn, .int .i64 kk] 31) = W at *
    generalize w.heap.size = ab at *
    refine hle.mono ?_
    rintro e w1 ⟨rfl, hL1, hL2, hb1⟩
    have hl2 : W.heap.size < w1.heap.size := by
      obtain ⟨p, cc, e, k1, k2, k3⟩ := hL1
      obtain ⟨b, o, e2, k4, k5⟩ := k3 (by simp)
      simp only [Value.slice.injEq] at e
      obtain ⟨rfl, -, -⟩ := e
      simp only [Option.some.injEq, Addr.mk.injEq] at e2
      obtain ⟨rfl, -, -⟩ := e2
      exact k4
    have hD := hmk.out w1 hb1 hl2
    have b1 := (hb1.cell (p := ⟨ab, 1, none⟩) hlt).trans a1
    have b3 := (hb1.cell (p := ⟨ab, 3, none⟩) hlt).trans a3
    generalize hlb : W.heap.size = lb at *
    clear hle hmk a1 a3
    have hD1 := hD.below (ext_drew8 _)
    have hc1 := hD1.append (x := ka) hO'.out hc hsa (.inr rfl) hL2 (by omega)
    have hc2 := fun w2 (h1 : Duo8 w0 w1 w2 (fun k => k = ab ∨ k = lb) d r (M.append ka kdat).2 M) => h1.rappend hO'.out hc ka hold.out (by omega)
    have hc3 : Hid _ := hc2
    have hc4 := fun w3 (h2 : Duo8 w0 w1 w3 (fun k => k = ab ∨ k = lb) d r (M.append ka kdat).2 (M.append ka kdat).2) => kept_any8 _ _ kdat w3 (h2.has (.inr rfl) hL1) (hold.out.below h2.bel (Nat.le_refl _)) (by omega)
    have hc5 : Hid _ := hc4
    clear hc2 hc4 hD hD1
    generalize M.append ka kdat = pr at *
    go_wp2_with fail
    go_region_held3 (fun w' => w'.cell? ⟨ab, 1, none⟩ = some (.string ka) ∧ w'.cell? ⟨ab, 3, none⟩ = some (.slice kp kdat.length kc))
      (first | exact ⟨b1, b3⟩ | exact ⟨keepG (by assumption) b1, keepG (by assumption) b3⟩)
      (first
        | (go_at_call 20; refine hc1.mono ?_; rintro e w2 ⟨rfl, h1⟩)
        | (go_at_call 35; refine (hc3.out _ h1).mono ?_; rintro e w3 ⟨rfl, h2⟩)
        | (go_at_call 36; refine (hc5.out _ h2).mono ?_; rintro e w4 ⟨rfl, hb4⟩; have h3 := h2.below hb4))
    go_wp2
    go_ret
    obtain ⟨S', G', k2⟩ := h3.two
    exact ⟨by simp, S', G', by rw [e1.out]; exact k2⟩
  · subst q
    have e1 : Hid (M.acted ⟨2, ka, kb, kp, kc, kdat, kn, kk⟩ = M.syncs.2) := rfl
    have hc1 := hD.sync hO hc
    have hc2 := fun w1 (h1 : Duo8 w0 (w.alloc (.cells #[.int .i64 2, .string ka, .string kb, .slice kp kdat.length kc, .int .i64 kn, .int .i64 kk] 31)) w1 (fun k => k = w.heap.size) d r M.syncs.2 M) => h1.rsync hO hc
    have hc3 : Hid _ := hc2
    clear hc2
    clear hD h a1 a2 a3 a4 a5
    go_enter Try.func13, Try.ntmps13
    go_wp2_with fail
    generalize w.alloc (.cells #[.int .i64 2, .string ka, .string kb, .slice kp kdat.length kc, .int .i64 kn, .int .i64 kk] 31) = W at *
    generalize w.heap.size = ab at *
    generalize M.syncs = pr at *
    refine hc1.mono ?_
    rintro e w1 ⟨rfl, h1⟩
    go_wp2_with fail
    refine (hc3.out _ h1).mono ?_
    rintro e w2 ⟨rfl, h2⟩
    go_wp2
    go_ret
    obtain ⟨S', G', k2⟩ := h2.two
    exact ⟨by simp, S', G', by rw [e1.out]; exact k2⟩
  · subst q
    have e1 : Hid (M.acted ⟨3, ka, kb, kp, kc, kdat, kn, kk⟩ = (M.rename ka kb).2) := rfl
    have hD1 := hD.below (ext_drew8 _)
    have hc1 := hD1.rename hO hc hsa hsb
    have hc2 := fun w1 (h1 : Duo8 w0 (w.alloc (.cells #[.int .i64 3, .string ka, .string kb, .slice kp kdat.length kc, .int .i64 kn, .int .i64 kk] 31)) w1 (fun k => k = w.heap.size) d r (M.rename ka kb).2 M) => h1.rrename (a := ka) hO hc hsb
    have hc3 : Hid _ := hc2
    clear hc2
    clear hD hD1 h a3 a4 a5
    go_enter Try.func13, Try.ntmps13
    go_wp2_with fail
    generalize w.alloc (.cells #[.int .i64 3, .string ka, .string kb, .slice kp kdat.length kc, .int .i64 kn, .int .i64 kk] 31) = W at *
    generalize w.heap.size = ab at *
    generalize M.rename ka kb = pr at *
    go_region_held3 (fun w' => w'.cell? ⟨ab, 1, none⟩ = some (.string ka) ∧ w'.cell? ⟨ab, 2, none⟩ = some (.string kb))
      (first | exact ⟨a1, a2⟩ | exact ⟨keepF (by assumption) a1, keepF (by assumption) a2⟩)
      (first
        | (go_at_call 25; refine hc1.mono ?_; rintro e w1 ⟨rfl, h1⟩)
        | (go_at_call 38; refine (hc3.out _ h1).mono ?_; rintro e w2 ⟨rfl, h2⟩))
    go_wp2
    go_ret
    obtain ⟨S', G', k2⟩ := h2.two
    exact ⟨by simp, S', G', by rw [e1.out]; exact k2⟩
  · subst q
    have e1 : Hid (M.acted ⟨4, ka, kb, kp, kc, kdat, kn, kk⟩ = (M.remove ka).2) := rfl
    have hD1 := hD.below (ext_drew8 _)
    have hc1 := hD1.remove hO hc hsa
    have hc2 := fun w1 (h1 : Duo8 w0 (w.alloc (.cells #[.int .i64 4, .string ka, .string kb, .slice kp kdat.length kc, .int .i64 kn, .int .i64 kk] 31)) w1 (fun k => k = w.heap.size) d r (M.remove ka).2 M) => h1.rremove hO hc ka
    have hc3 : Hid _ := hc2
    clear hc2
    clear hD hD1 h a2 a3 a4 a5
    go_enter Try.func13, Try.ntmps13
    go_wp2_with fail
    generalize w.alloc (.cells #[.int .i64 4, .string ka, .string kb, .slice kp kdat.length kc, .int .i64 kn, .int .i64 kk] 31) = W at *
    generalize w.heap.size = ab at *
    generalize M.remove ka = pr at *
    go_region_held3 (fun w' => w'.cell? ⟨ab, 1, none⟩ = some (.string ka))
      (first | exact a1 | exact keepF (by assumption) a1)
      (first
        | (go_at_call 26; refine hc1.mono ?_; rintro e w1 ⟨rfl, h1⟩)
        | (go_at_call 39; refine (hc3.out _ h1).mono ?_; rintro e w2 ⟨rfl, h2⟩))
    go_wp2
    go_ret
    obtain ⟨S', G', k2⟩ := h2.two
    exact ⟨by simp, S', G', by rw [e1.out]; exact k2⟩
  · subst q
    have e1 : Hid (M.acted ⟨5, ka, kb, kp, kc, kdat, kn, kk⟩ = M) := rfl
    have h2 := h.below hal
    have hr1 := read_any h2.disk.at8 hO.inv hsa
    have hisR := readB_isB hO.inv ka
    have hrd : Hid (∀ W2, Two8 w0 W2 d r S G M M → Calls Try.prog 40 #[.pointer (some ⟨r, 0, none⟩), .string ka] W2 fun e w' => (∃ v, e = .returned (.tuple #[v, .int .i64 (M.readE ka : Nat)]) ∧ Owns w' W2.heap.size 5 v (M.readB ka)) ∧ Below W2.heap.size W2 w') := fun W2 hW => rread_any hW.ref (hO.ok hc) ka
    have h2' : Hid (Two8 w0 (w.alloc (.cells #[.int .i64 5, .string ka, .string kb, .slice kp kdat.length kc, .int .i64 kn, .int .i64 kk] 31)) d r S G M M) := h2
    clear hD h a2 a3 a4 a5 h2
    go_enter Try.func13, Try.ntmps13
    go_wp2_with fail
    generalize w.alloc (.cells #[.int .i64 5, .string ka, .string kb, .slice kp kdat.length kc, .int .i64 kn, .int .i64 kk] 31) = W at *
    generalize w.heap.size = ab at *
    generalize M.readE ka = rE at *
    refine hr1.mono ?_
    rintro e w1 ⟨⟨v1, rfl, ho1⟩, hb1⟩
    have h3 := h2'.out.below hb1
    have b1 := (hb1.cell (p := ⟨ab, 1, none⟩) hlt).trans a1
    have hr2 := hrd.out w1 h3
    have ho1' : Hid (Owns w1 W.heap.size 5 v1 (M.readB ka)) := ho1
    obtain ⟨p1, q1, rfl⟩ := ho1.shape
    clear hr1 a1 ho1
    go_wp2_with fail
    refine hr2.mono ?_
    rintro e w2 ⟨⟨v2, rfl, ho2⟩, hb2⟩
    have h4 := h3.below hb2
    have hsm := same8 _ _ (M.readB ka) (M.readB ka) w2 (ho1'.out.has.below hb2 (Nat.le_refl _)) ho2.has hisR hisR
    have h4' : Hid (Two8 w0 w2 d r S G M M) := h4
    obtain ⟨p2, q2, rfl⟩ := ho2.shape
    rw [beq_self_eq_true] at hsm
    clear hr2 ho2 ho1' h3 h4 hrd h2'
    go_wp2_with fail
    refine same_mono hsm ?_
    go_wp2
    go_ret
    exact ⟨by simp, S, G, by rw [e1.out]; exact h4'.out⟩
  · subst q
    have e1 : Hid (M.acted ⟨6, ka, kb, kp, kc, kdat, kn, kk⟩ = (M.arm kn kk).2) := rfl
    have hD1 := hD.below (ext_drew8 _)
    have hc1 := hD1.arm kn kk hkn
    have hc2 := fun w1 (h1 : Duo8 w0 (w.alloc (.cells #[.int .i64 6, .string ka, .string kb, .slice kp kdat.length kc, .int .i64 kn, .int .i64 kk] 31)) w1 (fun k => k = w.heap.size) d r (M.arm kn kk).2 M) => h1.rarm kn kk
    have hc3 : Hid _ := hc2
    clear hc2
    clear hD hD1 h a1 a2 a3
    go_enter Try.func13, Try.ntmps13
    go_wp2_with fail
    generalize w.alloc (.cells #[.int .i64 6, .string ka, .string kb, .slice kp kdat.length kc, .int .i64 kn, .int .i64 kk] 31) = W at *
    generalize w.heap.size = ab at *
    generalize M.arm kn kk = pr at *
    go_region_held3 (fun w' => w'.cell? ⟨ab, 4, none⟩ = some (.int .i64 kn) ∧ w'.cell? ⟨ab, 5, none⟩ = some (.int .i64 kk))
      (first | exact ⟨a4, a5⟩ | exact ⟨keepF (by assumption) a4, keepF (by assumption) a5⟩)
      (first
        | (go_at_call 28; refine hc1.mono ?_; rintro e w1 ⟨rfl, h1⟩)
        | (go_at_call 42; refine (hc3.out _ h1).mono ?_; rintro e w2 ⟨rfl, h2⟩))
    go_wp2
    go_ret
    obtain ⟨S', G', k2⟩ := h2.two
    exact ⟨by simp, S', G', by rw [e1.out]; exact k2⟩
  · subst q
    have e1 : Hid (M.acted ⟨7, ka, kb, kp, kc, kdat, kn, kk⟩ = M.crash kn) := rfl
    have hc1 := hD.crash hO hc kn hkn
    have hc2 := fun w1 (h1 : Duo8 w0 (w.alloc (.cells #[.int .i64 7, .string ka, .string kb, .slice kp kdat.length kc, .int .i64 kn, .int .i64 kk] 31)) w1 (fun k => k = w.heap.size) d r (M.crash kn) M) => h1.rcrash hO hc kn hkn
    have hc3 : Hid _ := hc2
    clear hc2
    clear hD h a1 a2 a3 a5
    go_enter Try.func13, Try.ntmps13
    go_wp2_with fail
    generalize w.alloc (.cells #[.int .i64 7, .string ka, .string kb, .slice kp kdat.length kc, .int .i64 kn, .int .i64 kk] 31) = W at *
    generalize w.heap.size = ab at *
    refine hc1.mono ?_
    rintro e w1 ⟨⟨v, rfl⟩, h1⟩
    have b4 := Duo8.cell1 h1 rfl a4
    go_wp2_with fail
    refine (hc3.out _ h1).mono ?_
    rintro e w2 ⟨⟨v, rfl⟩, h2⟩
    go_wp2
    go_ret
    obtain ⟨S', G', k2⟩ := h2.two
    exact ⟨by simp, S', G', by rw [e1.out]; exact k2⟩
  · subst q
    have e1 : Hid (M.acted ⟨8, ka, kb, kp, kc, kdat, kn, kk⟩ = M.start) := rfl
    have hc1 := hD.start
    have hc2 := fun w1 (h1 : Duo8 w0 (w.alloc (.cells #[.int .i64 8, .string ka, .string kb, .slice kp kdat.length kc, .int .i64 kn, .int .i64 kk] 31)) w1 (fun k => k = w.heap.size) d r M.start M) => h1.rstart
    have hc3 : Hid _ := hc2
    clear hc2
    clear hD h a1 a2 a3 a4 a5
    go_enter Try.func13, Try.ntmps13
    go_wp2_with fail
    generalize w.alloc (.cells #[.int .i64 8, .string ka, .string kb, .slice kp kdat.length kc, .int .i64 kn, .int .i64 kk] 31) = W at *
    generalize w.heap.size = ab at *
    refine hc1.mono ?_
    rintro e w1 ⟨⟨v, rfl⟩, h1⟩
    go_wp2_with fail
    refine (hc3.out _ h1).mono ?_
    rintro e w2 ⟨⟨v, rfl⟩, h2⟩
    go_wp2
    go_ret
    obtain ⟨S', G', k2⟩ := h2.two
    exact ⟨by simp, S', G', by rw [e1.out]; exact k2⟩
  · subst q
    have e1 : Hid (M.acted ⟨9, ka, kb, kp, kc, kdat, kn, kk⟩ = (M.spoil ka kn kk).2) := rfl
    have hD1 := hD.below (ext_drew8 _)
    have hc1 := hD1.spoil hO.inv hsa kn kk hkn hkk
    have hc2 := fun w1 (h1 : Duo8 w0 (w.alloc (.cells #[.int .i64 9, .string ka, .string kb, .slice kp kdat.length kc, .int .i64 kn, .int .i64 kk] 31)) w1 (fun k => k = w.heap.size) d r (M.spoil ka kn kk).2 M) => h1.rspoil hO hc ka kn kk hkn hkk
    have hc3 : Hid _ := hc2
    clear hc2
    clear hD hD1 h a2 a3
    go_enter Try.func13, Try.ntmps13
    go_wp2_with fail
    generalize w.alloc (.cells #[.int .i64 9, .string ka, .string kb, .slice kp kdat.length kc, .int .i64 kn, .int .i64 kk] 31) = W at *
    generalize w.heap.size = ab at *
    generalize M.spoil ka kn kk = pr at *
    go_region_held3 (fun w' => w'.cell? ⟨ab, 1, none⟩ = some (.string ka) ∧ w'.cell? ⟨ab, 4, none⟩ = some (.int .i64 kn) ∧ w'.cell? ⟨ab, 5, none⟩ = some (.int .i64 kk))
      (first | exact ⟨a1, a4, a5⟩ | exact ⟨keepF (by assumption) a1, keepF (by assumption) a4, keepF (by assumption) a5⟩)
      (first
        | (go_at_call 32; refine hc1.mono ?_; rintro e w1 ⟨rfl, h1⟩)
        | (go_at_call 45; refine (hc3.out _ h1).mono ?_; rintro e w2 ⟨rfl, h2⟩))
    go_wp2
    go_ret
    obtain ⟨S', G', k2⟩ := h2.two
    exact ⟨by simp, S', G', by rw [e1.out]; exact k2⟩
  · have e1 : Hid (M.acted ⟨kd, ka, kb, kp, kc, kdat, kn, kk⟩ = M) := by
      show _ = _
      unfold DM.acted
      rw [if_neg q0, if_neg q1, if_neg q2, if_neg q3, if_neg q4, if_neg q6, if_neg q7, if_neg q8, if_neg q9]
    clear h a1 a2 a3 a4 a5
    go_enter Try.func13, Try.ntmps13
    go_wp2
    go_ret
    obtain ⟨S', G', k2⟩ := hD.two
    exact ⟨rfl, S', G', by rw [e1.out]; exact k2⟩
end
end Go.Proofs.Ytefgnehahedckaa
