import Derived.Test.YthlelcmifolnfaaGreatDoorRh1To
import Derived.Test.YthlelcmifolnfaaGreatDoorDs4To
import Derived.Test.YthlelcmifolnfaaGreatDoorDs0To
namespace Go.Proofs.YthlelcmifolnfaaGreatDoor
open Go.RowKit Go.Maps
theorem xor8_lt {z y : Int} (hz : 0 ≤ z ∧ z < 256) (hy : 0 ≤ y ∧ y < 256) : 0 ≤ xor8 z y ∧ xor8 z y < 256 := by
  unfold xor8
  have : z.toNat ^^^ y.toNat < 2 ^ 8 := Nat.xor_lt_two_pow (by omega) (by omega)
  omega
theorem isB8_set {xs : List Int} (h : isB8 xs) {z : Int} (hz : 0 ≤ z ∧ z < 256) (i : Nat) : isB8 (xs.set i z) := fun u hu => by
  rcases List.mem_or_eq_of_mem_set hu with hu | rfl
  · exact h u hu
  · exact hz
theorem isB8_getD {xs : List Int} (h : isB8 xs) (i : Nat) : 0 ≤ xs.getD i 0 ∧ xs.getD i 0 < 256 := by
  rw [List.getD_eq_getElem?_getD]
  cases hi : xs[i]? with
  | none => exact ⟨Int.le_refl _, by decide⟩
  | some z => exact h z (List.mem_of_getElem? hi)
theorem flipB_isB {y : Int} (hy : 0 ≤ y ∧ y < 256) : ∀ {buf : List (ByteArray × List Int)} (x : ByteArray) (i : Nat), (∀ w ∈ buf, isB8 w.2) → ∀ w ∈ flipB buf x i y, isB8 w.2
  | [], x, i, _, w, hw => by cases hw
  | v :: r, x, i, h, w, hw => by
    have hr : ∀ w ∈ r, isB8 w.2 := fun w hw => h w (List.mem_cons_of_mem _ hw)
    rw [flipB] at hw
    split at hw
    · split at hw
      · rcases List.mem_cons.1 hw with rfl | hw
        · exact isB8_set (h v List.mem_cons_self) (xor8_lt (isB8_getD (h v List.mem_cons_self) i) hy) i
        · exact hr w hw
      · rcases List.mem_cons.1 hw with rfl | hw
        · exact h _ List.mem_cons_self
        · exact flipB_isB hy x _ hr w hw
    · rcases List.mem_cons.1 hw with rfl | hw
      · exact h _ List.mem_cons_self
      · exact flipB_isB hy x _ hr w hw
theorem rise_nms {l : List (ByteArray × List Int)} : Rises l ↔ (nms l).Pairwise fun a b => ltT a b = true := by
  unfold Rises nms
  rw [List.pairwise_map]
theorem flip_used {M : DM} (hI : M.Inv) {x : ByteArray} {i : Nat} (y : Int) (hi : i < (M.bytes x).length) : (M.flip x i y).used = M.used := by
  have hn : nms (M.flip x i y).L = nms M.L := (flip_bytes (M := M) y hi x).2.2
  have hlen : ∀ z, ((M.flip x i y).bytes z).length = (M.bytes z).length := fun z => by
    rw [(flip_bytes (M := M) y hi z).1]
    by_cases e : z = x
    · rw [e, upd_at, List.length_set]
    · rw [upd_ne e]
  unfold DM.used
  rw [used_sum (by rw [hn]; exact hI.nodup), used_sum hI.nodup, hn]
  exact sumN_congr fun z _ => congrArg need (hlen z)
theorem DM.Inv.flip {M : DM} (h : M.Inv) {x : ByteArray} {i : Nat} {y : Int} (hy : 0 ≤ y ∧ y < 256) (hi : i < (M.bytes x).length) : (M.flip x i y).Inv := by
  have hn : nms (M.flip x i y).L = nms M.L := (flip_bytes (M := M) y hi x).2.2
  have hu := flip_used h y hi
  have hrest : (M.flip x i y).blocks = M.blocks ∧ (M.flip x i y).ops = M.ops := by unfold DM.flip; split <;> exact ⟨rfl, rfl⟩
  have hbuf : (∀ w ∈ (M.flip x i y).buf, ∃ v ∈ M.buf, v.1 = w.1) ∧ (M.flip x i y).buf.length = M.buf.length ∧ (∀ w ∈ (M.flip x i y).buf, isB8 w.2) ∧ ∀ f ∈ (M.flip x i y).L, isB8 f.2 := by
    unfold DM.flip
    split
    · refine ⟨fun w hw => ⟨w, hw, rfl⟩, rfl, h.isW, fun f hf => ?_⟩
      obtain ⟨g, hg, rfl⟩ := List.mem_map.1 hf
      split
      · exact isB8_set (h.isL g hg) (xor8_lt (isB8_getD (h.isL g hg) i) hy) i
      · exact h.isL g hg
    · have hw := (flipB_wrs M.buf x (i - (lk M.L x).length) y).1
      refine ⟨fun w hw2 => ?_, ?_, flipB_isB hy _ _ h.isW, h.isL⟩
      · have hm : (w.1, w.2.length) ∈ wrs (flipB M.buf x (i - (lk M.L x).length) y) := List.mem_map.2 ⟨w, hw2, rfl⟩
        rw [hw] at hm
        obtain ⟨v, hv, e, _⟩ := wrs_mem hm
        exact ⟨v, hv, e⟩
      · have := congrArg List.length hw
        unfold wrs at this
        rwa [List.length_map, List.length_map] at this
  obtain ⟨k1, k2, k3, k4⟩ := hbuf
  refine ⟨?_, ?_, ?_, k4, k3, ?_, ?_, ?_⟩
  · rw [rise_nms, hn, ← rise_nms]; exact h.rise
  · intro z hz
    refine h.good z ?_
    show z ∈ nms M.L
    rw [← hn]; exact hz
  · intro w hw
    obtain ⟨v, hv, e⟩ := k1 w hw
    show w.1 ∈ nms (M.flip x i y).L
    rw [hn, ← e]
    exact h.mem v hv
  · rw [hu, hrest.1]; exact h.fits
  · rw [hrest.1]; exact h.top
  · rw [k2, hrest.2]; exact h.few
theorem DM.OkN.spoil {c : Nat} {M : DM} (h : M.OkN c) (x : ByteArray) (i b : Int) : (M.spoil x i b).2.OkN c := by
  unfold DM.spoil
  split
  · exact h
  · split
    · exact h
    · split
      · exact h
      · rename_i hbad
        have hb : b.toNat < 8 := by omega
        have hp := pow8 hb
        have hrest : (M.flip x i.toNat ((2 ^ b.toNat : Nat) : Int)).ops = M.ops ∧ (M.flip x i.toNat ((2 ^ b.toNat : Nat) : Int)).n = M.n ∧ (M.flip x i.toNat ((2 ^ b.toNat : Nat) : Int)).keep = M.keep := by unfold DM.flip; split <;> exact ⟨rfl, rfl, rfl⟩
        refine ⟨h.inv.flip ⟨Int.natCast_nonneg _, by omega⟩ (by omega), ?_, ?_, ?_⟩
        · show (M.flip _ _ _).ops ≤ c; rw [hrest.1]; exact h.ops
        · show ((M.flip _ _ _).n : Int) ≤ _; rw [hrest.2.1]; exact h.n
        · show _ ≤ (M.flip _ _ _).keep ∧ (M.flip _ _ _).keep ≤ _; rw [hrest.2.2]; exact h.keep
structure Two8 (w0 w : World) (d r : Nat) (S G : Nat → Prop) (M N : DM) : Prop where
  disk : Disk8 w0 w d S M
  ref : RefAt w r G N
  own : ∀ k, G k → w0.heap.size ≤ k ∧ k < w.heap.size
  apart : ∀ k, S k → ¬ G k
def Duo8 (w0 wB w : World) (F : Nat → Prop) (d r : Nat) (M N : DM) : Prop :=
  ∃ S G, Two8 w0 w d r S G M N ∧ wB.heap.size ≤ w.heap.size ∧ ∀ k, F k → k < wB.heap.size ∧ ¬ S k ∧ ¬ G k ∧ w.heap[k]? = wB.heap[k]?
section
variable {w0 wB w w' : World} {F : Nat → Prop} {d r : Nat} {S G : Nat → Prop} {M M' N N' : DM}
theorem Two8.below (h : Two8 w0 w d r S G M N) (hb : Below w.heap.size w w') : Two8 w0 w' d r S G M N :=
  ⟨h.disk.below hb, h.ref.below hb, fun k hk => ⟨(h.own k hk).1, Nat.lt_of_lt_of_le (h.own k hk).2 hb.size⟩, h.apart⟩
theorem Two8.duo (h : Two8 w0 w d r S G M N) (hb : Below w.heap.size w wB) (hF : ∀ k, F k → w.heap.size ≤ k ∧ k < wB.heap.size) : Duo8 w0 wB wB F d r M N :=
  ⟨S, G, h.below hb, Nat.le_refl _, fun k hk => ⟨(hF k hk).2, fun hs => by have := (h.disk.own k hs).2; have := (hF k hk).1; omega, fun hs => by have := (h.own k hs).2; have := (hF k hk).1; omega, rfl⟩⟩
theorem Duo8.two (h : Duo8 w0 wB w F d r M N) : ∃ S G, Two8 w0 w d r S G M N := by
  obtain ⟨S, G, h1, -⟩ := h
  exact ⟨S, G, h1⟩
theorem Duo8.below (h : Duo8 w0 wB w F d r M N) (hb : Below w.heap.size w w') : Duo8 w0 wB w' F d r M N := by
  obtain ⟨S, G, h1, h2, h3⟩ := h
  exact ⟨S, G, h1.below hb, Nat.le_trans h2 hb.size, fun k hk => ⟨(h3 k hk).1, (h3 k hk).2.1, (h3 k hk).2.2.1, (hb.block k (Nat.lt_of_lt_of_le (h3 k hk).1 h2)).trans (h3 k hk).2.2.2⟩⟩
theorem Duo8.bel (h : Duo8 w0 wB w F d r M N) : Below w0.heap.size w0 w := by
  obtain ⟨S, G, h1, -⟩ := h
  exact h1.disk.bel
theorem Duo8.disk_op {P : Program} {f : FuncId} {args : Array Value} {A : Ending → Prop} (h : Duo8 w0 wB w F d r M N) (hc : ∀ S, Disk8 w0 w d S M → (∀ k, F k → ¬ S k) → Calls P f args w fun e w' => A e ∧ Disk8 w0 w' d (more8 S w w') M' ∧ Turn S w w') :
    Calls P f args w fun e w' => A e ∧ Duo8 w0 wB w' F d r M' N := by
  obtain ⟨S, G, h1, h2, h3⟩ := h
  refine (hc S h1.disk fun k hk => (h3 k hk).2.1).mono ?_
  rintro e w' ⟨he, hD, ht⟩
  have hm : ∀ k, k < w.heap.size → ¬ S k → ¬ more8 S w w' k := fun k hk hs hmm => hmm.elim hs fun h => by omega
  refine ⟨he, more8 S w w', G, ⟨hD, h1.ref.same fun k hk hg => ht.block k hk fun hs => h1.apart k hs hg, fun k hk => ⟨(h1.own k hk).1, Nat.lt_of_lt_of_le (h1.own k hk).2 ht.size⟩, fun k hk hg => hm k (h1.own k hg).2 (fun hs => h1.apart k hs hg) hk⟩, Nat.le_trans h2 ht.size, fun k hk => ?_⟩
  have hk' : k < w.heap.size := Nat.lt_of_lt_of_le (h3 k hk).1 h2
  exact ⟨(h3 k hk).1, hm k hk' (h3 k hk).2.1, (h3 k hk).2.2.1, (ht.block k hk' (h3 k hk).2.1).trans (h3 k hk).2.2.2⟩
theorem Duo8.ref_op {P : Program} {f : FuncId} {args : Array Value} {A : Ending → Prop} (h : Duo8 w0 wB w F d r M N) (hc : ∀ T, RefAt w r T N → (∀ k, w.heap.size ≤ k → T k) → (∀ k, k < w0.heap.size → ¬ T k) → Calls P f args w fun e w' => A e ∧ RefAt w' r T N' ∧ Turn T w w') :
    Calls P f args w fun e w' => A e ∧ Duo8 w0 wB w' F d r M N' := by
  obtain ⟨S, G, h1, h2, h3⟩ := h
  have hz := h1.disk.bel.size
  refine (hc (wide8 G w) (h1.ref.mono fun _ _ hk => .inl hk) (fun _ hk => .inr hk) fun k hk hs => by
    rcases hs with hs | hs
    · have := (h1.own k hs).1; omega
    · omega).mono ?_
  rintro e w' ⟨he, hR, ht0⟩
  have ht : Turn G w w' := ht0.mono fun k hk => hk
  have hm : ∀ k, k < w.heap.size → ¬ G k → ¬ more8 G w w' k := fun k hk hs hmm => hmm.elim hs fun h => by omega
  refine ⟨he, S, more8 G w w', ⟨h1.disk.turn ht h1.apart (fun k hk => (h1.own k hk).1), hR.mono fun k hk hs => hs.imp id fun h => ⟨h, hk⟩, fun k hk => ?_, fun k hk hg => hm k (h1.disk.own k hk).2 (h1.apart k hk) hg⟩, Nat.le_trans h2 ht.size, fun k hk => ?_⟩
  · rcases hk with hk | hk
    · exact ⟨(h1.own k hk).1, Nat.lt_of_lt_of_le (h1.own k hk).2 ht.size⟩
    · exact ⟨by omega, hk.2⟩
  · have hk' : k < w.heap.size := Nat.lt_of_lt_of_le (h3 k hk).1 h2
    exact ⟨(h3 k hk).1, (h3 k hk).2.1, hm k hk' (h3 k hk).2.2.1, (ht.block k hk' (h3 k hk).2.2.1).trans (h3 k hk).2.2.2⟩
theorem hasX_old {T : Nat → Prop} (hb : Below w0.heap.size w0 w) (hT : ∀ k, k < w0.heap.size → ¬ T k) {v : Value} {xs : List Int} (hv : Has w0 v xs) : HasX w T v xs := by
  obtain ⟨p, c, rfl, h1, h2, h3⟩ := hv
  refine ⟨p, c, rfl, h1, h2, fun h0 => ?_⟩
  obtain ⟨b, o, rfl, hlt, hc⟩ := h3 h0
  exact ⟨b, o, rfl, hT b hlt, Nat.lt_of_lt_of_le hlt hb.size, fun i hi => (hb.cell (p := ⟨b, o + i, none⟩) hlt).trans (hc i hi)⟩
end
section
variable {w0 wB w : World} {F : Nat → Prop} {d r c : Nat} {M N : DM}
theorem Duo8.create (h : Duo8 w0 wB w F d r M N) (hO : M.OkN c) (hc : c < 1099511627776) {x : ByteArray} (hs : x.size ≤ maxLen) : Calls Tryz.prog 29 #[.pointer (some ⟨d, 0, none⟩), .string x] w fun e w' => e = .returned (.int .i64 ((M.create x).1 : Nat)) ∧ Duo8 w0 wB w' F d r (M.create x).2 N := h.disk_op fun _ hD _ => hD.create hO hc hs
theorem Duo8.remove (h : Duo8 w0 wB w F d r M N) (hO : M.OkN c) (hc : c < 1099511627776) {x : ByteArray} (hs : x.size ≤ maxLen) : Calls Tryz.prog 33 #[.pointer (some ⟨d, 0, none⟩), .string x] w fun e w' => e = .returned (.int .i64 ((M.remove x).1 : Nat)) ∧ Duo8 w0 wB w' F d r (M.remove x).2 N := h.disk_op fun _ hD _ => hD.remove hO hc hs
theorem Duo8.arm (h : Duo8 w0 wB w F d r M N) (n k : Int) (hn : -9223372036854775808 ≤ n ∧ n ≤ 9223372036854775807) : Calls Tryz.prog 21 #[.pointer (some ⟨d, 0, none⟩), .int .i64 n, .int .i64 k] w fun e w' => e = .returned (.int .i64 ((M.arm n k).1 : Nat)) ∧ Duo8 w0 wB w' F d r (M.arm n k).2 N := h.disk_op fun _ hD _ => hD.arm n k hn
theorem Duo8.crash (h : Duo8 w0 wB w F d r M N) (hO : M.OkN c) (hc : c < 1099511627776) (k : Int) (hk : -9223372036854775808 ≤ k ∧ k ≤ 9223372036854775807) : Calls Tryz.prog 23 #[.pointer (some ⟨d, 0, none⟩), .int .i64 k] w fun e w' => (∃ v, e = .returned v) ∧ Duo8 w0 wB w' F d r (M.crash k) N := h.disk_op fun _ hD _ => hD.crash hO hc k hk
theorem Duo8.start (h : Duo8 w0 wB w F d r M N) : Calls Tryz.prog 25 #[.pointer (some ⟨d, 0, none⟩)] w fun e w' => (∃ v, e = .returned v) ∧ Duo8 w0 wB w' F d r M.start N := h.disk_op fun _ hD _ => hD.start
theorem Duo8.spoil (h : Duo8 w0 wB w F d r M N) (hI : M.Inv) {x : ByteArray} (hs : x.size ≤ maxLen) (i b : Int) (hi : -9223372036854775808 ≤ i ∧ i ≤ 9223372036854775807) (hb : -9223372036854775808 ≤ b ∧ b ≤ 9223372036854775807) : Calls Tryz.prog 27 #[.pointer (some ⟨d, 0, none⟩), .string x, .int .i64 i, .int .i64 b] w fun e w' => e = .returned (.int .i64 ((M.spoil x i b).1 : Nat)) ∧ Duo8 w0 wB w' F d r (M.spoil x i b).2 N := h.disk_op fun _ hD _ => hD.spoil hI hs i b hi hb
theorem Duo8.rcreate (h : Duo8 w0 wB w F d r M N) (hO : N.OkN c) (hc : c < 1099511627776) {x : ByteArray} (hs : x.size ≤ maxLen) : Calls Tryz.prog 30 #[.pointer (some ⟨r, 0, none⟩), .string x] w fun e w' => e = .returned (.int .i64 ((N.create x).1 : Nat)) ∧ Duo8 w0 wB w' F d r M (N.create x).2 := h.ref_op fun _ hR hT _ => rcreate_any hR (hO.ok hc) hT hs
theorem Duo8.rremove (h : Duo8 w0 wB w F d r M N) (hO : N.OkN c) (hc : c < 1099511627776) (x : ByteArray) : Calls Tryz.prog 34 #[.pointer (some ⟨r, 0, none⟩), .string x] w fun e w' => e = .returned (.int .i64 ((N.remove x).1 : Nat)) ∧ Duo8 w0 wB w' F d r M (N.remove x).2 := h.ref_op fun _ hR hT _ => rremove_any hR (hO.ok hc) hT x
theorem Duo8.rarm (h : Duo8 w0 wB w F d r M N) (n k : Int) : Calls Tryz.prog 22 #[.pointer (some ⟨r, 0, none⟩), .int .i64 n, .int .i64 k] w fun e w' => e = .returned (.int .i64 ((N.arm n k).1 : Nat)) ∧ Duo8 w0 wB w' F d r M (N.arm n k).2 := h.ref_op fun _ hR _ _ => rarm_any hR n k
theorem Duo8.rcrash (h : Duo8 w0 wB w F d r M N) (hO : N.OkN c) (hc : c < 1099511627776) (k : Int) (hk : -9223372036854775808 ≤ k ∧ k ≤ 9223372036854775807) : Calls Tryz.prog 24 #[.pointer (some ⟨r, 0, none⟩), .int .i64 k] w fun e w' => (∃ v, e = .returned v) ∧ Duo8 w0 wB w' F d r M (N.crash k) := h.ref_op fun _ hR hT _ => rcrash_any hR hO.inv (by have := hO.ops; omega) hT k hk
theorem Duo8.rstart (h : Duo8 w0 wB w F d r M N) : Calls Tryz.prog 26 #[.pointer (some ⟨r, 0, none⟩)] w fun e w' => (∃ v, e = .returned v) ∧ Duo8 w0 wB w' F d r M N.start := h.ref_op fun _ hR _ _ => rstart_any hR
theorem Duo8.rspoil (h : Duo8 w0 wB w F d r M N) (hO : N.OkN c) (hc : c < 1099511627776) (x : ByteArray) (i b : Int) (hi : -9223372036854775808 ≤ i ∧ i ≤ 9223372036854775807) (hb : -9223372036854775808 ≤ b ∧ b ≤ 9223372036854775807) : Calls Tryz.prog 28 #[.pointer (some ⟨r, 0, none⟩), .string x, .int .i64 i, .int .i64 b] w fun e w' => e = .returned (.int .i64 ((N.spoil x i b).1 : Nat)) ∧ Duo8 w0 wB w' F d r M (N.spoil x i b).2 := h.ref_op fun _ hR hT _ => rspoil_any hR (hO.ok hc) hT x i b hi hb
theorem Duo8.rappend (h : Duo8 w0 wB w F d r M N) (hO : N.OkN c) (hc : c < 1099511627776) (x : ByteArray) {v : Value} {bs : List Int} (hb : Has w0 v bs) (hbl : bs.length ≤ 1099511627776) : Calls Tryz.prog 32 #[.pointer (some ⟨r, 0, none⟩), .string x, v] w fun e w' => e = .returned (.int .i64 ((N.append x bs).1 : Nat)) ∧ Duo8 w0 wB w' F d r M (N.append x bs).2 := h.ref_op fun _ hR hT h0 => rappend_any hR (hO.ok hc) hT x (hasX_old h.bel h0 hb) hbl
end
section
variable {w : World} {r : Nat} {S : Nat → Prop} {M : DM}
theorem rlist_at (h : RefAt w r S M) (hI : M.Inv) : Calls Tryz.prog 39 #[.pointer (some ⟨r, 0, none⟩)] w fun e w' => (∃ v, e = .returned v ∧ HasT8 w' v M.listT) ∧ Below w.heap.size w w' := by
  obtain ⟨vl, vb, tl, tb, n0, h1, hL, hB, hn⟩ := h
  obtain ⟨z1, z2, z3, z4, z5⟩ := ref_sizes hI hL hB
  unfold DM.listT
  cases hf : M.off with
  | true =>
    rw [hf] at h1
    refine (rlist_off h1 z1).mono ?_
    rintro e w' ⟨rfl, hb⟩
    rw [if_pos rfl]
    exact ⟨⟨_, rfl, HasT8.of_owns (B := 0) (World.ownsRow_nil _ _ _ _)⟩, hb⟩
  | false =>
    rw [hf] at h1
    refine (rlist_on h1 z1).mono ?_
    rintro e w' ⟨⟨v, rfl, ho⟩, hb⟩
    rw [if_neg (by decide)]
    rw [hL] at ho
    exact ⟨⟨_, rfl, HasT8.of_owns ho⟩, hb⟩
theorem RefAt.cell4 (h : RefAt w r S M) : w.cell? ⟨r, 4, none⟩ = some (.int .i64 (M.ops : Nat)) := by
  obtain ⟨vl, vb, tl, tb, n0, h1, -⟩ := h
  obtain ⟨-, -, -, -, c4, -⟩ := h1.cells
  exact c4
end
section
variable {w0 w : World} {d r c : Nat} {S G : Nat → Prop} {M : DM}
end
end Go.Proofs.YthlelcmifolnfaaGreatDoor

namespace Go.Proofs.YthlelcmifolnfaaGreatDoor
open Go.RowKit Go.Shelf Go.Maps
structure RefS (wb w : World) (r : Nat) (S : Nat → Prop) (M : DM) : Prop where
  ex : ∃ S', RefAt w r S' M ∧ Turn S wb w ∧ ∀ k, S' k → S k ∨ wb.heap.size ≤ k
theorem HasX.turned {S : Nat → Prop} {X Y : World} {v : Value} {xs : List Int} (h : HasX X S v xs) (ht : Turn S X Y) : HasX Y (fun k => S k ∨ X.heap.size ≤ k) v xs := by
  obtain ⟨p, c, rfl, h1, h2, h3⟩ := h
  refine ⟨p, c, rfl, h1, h2, fun h0 => ?_⟩
  obtain ⟨b, o, rfl, hg, hb, hc⟩ := h3 h0
  exact ⟨b, o, rfl, (fun hk => hk.elim hg fun hk => by omega), Nat.lt_of_lt_of_le hb ht.size, fun i hi => (World.cell?_of_block (a := ⟨b, o + i, none⟩) (ht.block b hb hg)).trans (hc i hi)⟩
section
variable {wb w w' : World} {r c : Nat} {S : Nat → Prop} {M M' : DM}
theorem RefS.of (h : RefAt w r S M) : RefS w w r S M := ⟨S, h, Turn.refl _ _, fun _ hk => .inl hk⟩
theorem RefS.below (h : RefS wb w r S M) (hb : Below w.heap.size w w') : RefS wb w' r S M := by
  obtain ⟨S', h1, h2, h3⟩ := h
  exact ⟨S', h1.below hb, h2.trans (Turn.of_below hb (Nat.le_refl _)), h3⟩
theorem RefS.turn (h : RefS wb w r S M) : Turn S wb w := by
  obtain ⟨S', h1, h2, h3⟩ := h
  exact h2
theorem RefS.off (h : RefS wb w r S M) : w.cell? ⟨r, 3, none⟩ = some (.bool M.off) ∧ r < w.heap.size := by
  obtain ⟨S', h1, h2, h3⟩ := h
  exact h1.cell3
theorem RefS.op {P : Program} {f : FuncId} {args : Array Value} {A : Ending → Prop} (h : RefS wb w r S M) (hc : ∀ T, RefAt w r T M → (∀ k, w.heap.size ≤ k → T k) → (∀ k, T k → S k ∨ wb.heap.size ≤ k) → Calls P f args w fun e w' => A e ∧ RefAt w' r T M' ∧ Turn T w w') :
    Calls P f args w fun e w' => A e ∧ RefS wb w' r S M' := by
  obtain ⟨S', h1, h2, h3⟩ := h
  have hz := h2.size
  have hT : ∀ k, (S' k ∨ w.heap.size ≤ k) → S k ∨ wb.heap.size ≤ k := fun k hk => hk.elim (h3 k) fun hk => .inr (by omega)
  refine (hc (fun k => S' k ∨ w.heap.size ≤ k) (h1.mono fun k _ hk => .inl hk) (fun k hk => .inr hk) hT).mono ?_
  rintro e w' ⟨ha, hd, ht⟩
  exact ⟨ha, ⟨fun k => S' k ∨ w.heap.size ≤ k, hd, h2.wide ht hT, hT⟩⟩
theorem RefS.create (h : RefS wb w r S M) (hO : M.OkN c) (hc : c < 1099511627776) {x : ByteArray} (hs : x.size ≤ maxLen) :
    Calls Tryz.prog 30 #[.pointer (some ⟨r, 0, none⟩), .string x] w fun e w' => e = .returned (.int .i64 ((M.create x).1 : Nat)) ∧ RefS wb w' r S (M.create x).2 := h.op fun _ hR hT _ => rcreate_any hR (hO.ok hc) hT hs
theorem RefS.sync (h : RefS wb w r S M) (hO : M.OkN c) (hc : c < 1099511627776) :
    Calls Tryz.prog 74 #[.pointer (some ⟨r, 0, none⟩)] w fun e w' => e = .returned (.int .i64 (M.syncs.1 : Nat)) ∧ RefS wb w' r S M.syncs.2 := h.op fun _ hR hT _ => rsync_any hR (hO.ok hc) hT
theorem RefS.rename (h : RefS wb w r S M) (hO : M.OkN c) (hc : c < 1099511627776) {a b : ByteArray} (hsb : b.size ≤ maxLen) :
    Calls Tryz.prog 75 #[.pointer (some ⟨r, 0, none⟩), .string a, .string b] w fun e w' => e = .returned (.int .i64 ((M.rename a b).1 : Nat)) ∧ RefS wb w' r S (M.rename a b).2 := h.op fun _ hR hT _ => rrename_any hR (hO.ok hc) hT hsb
theorem RefS.remove (h : RefS wb w r S M) (hO : M.OkN c) (hc : c < 1099511627776) (x : ByteArray) :
    Calls Tryz.prog 34 #[.pointer (some ⟨r, 0, none⟩), .string x] w fun e w' => e = .returned (.int .i64 ((M.remove x).1 : Nat)) ∧ RefS wb w' r S (M.remove x).2 := h.op fun _ hR hT _ => rremove_any hR (hO.ok hc) hT x
theorem RefS.append (h : RefS wb w r S M) (hO : M.OkN c) (hc : c < 1099511627776) (x : ByteArray) {v : Value} {bs : List Int} (hb : HasX wb S v bs) (hbl : bs.length ≤ 1099511627776) :
    Calls Tryz.prog 32 #[.pointer (some ⟨r, 0, none⟩), .string x, v] w fun e w' => e = .returned (.int .i64 ((M.append x bs).1 : Nat)) ∧ RefS wb w' r S (M.append x bs).2 := by
  have ht := h.turn
  exact h.op fun _ hR hT hS => rappend_any hR (hO.ok hc) hT x ((hb.turned ht).mono fun k _ hk => hS k hk) hbl
end
end Go.Proofs.YthlelcmifolnfaaGreatDoor
