import Derived.Test.YtefgnehahedckaaDs5To
import Derived.ProofKit
import Derived.OpenShut
import Derived.Deep.SlicePairs
import Derived.SizedLaws
import Derived.ChangeSame
import Derived.SliceStrings
/-
  From a row's own words to this proof's: bytes, texts, an act and a slice of acts that came in.
-/
namespace Go.Proofs.Ytefgnehahedckaa
open Go.ChangeShapes Go.WideShapes Go.ChangeAt Go.RowKit Go.Deep

section
variable {H : Type} {enc : TypeId × Value → H} {W : World} {spare : Nat → Bool} {held : Bool} {b0 base fuel : Nat}

theorem bytes_in8 {a : Option Addr} {n c : Nat} {x : DataW H × List MemPlace} (h : DataW.trod enc Try.prog W base spare held fuel 29 [.slice a n c] = some x) (hw : ∀ q ∈ x.1.weights Try.prog 29, q ≤ reachBytes) :
    ∃ zs : List Int, zs.length = n ∧ Has W (.slice a n c) zs ∧ isB8 zs ∧ n ≤ 140737488351232 := by
  rcases open_ints Try.underlying29 Try.underlying5 (by kernel_rfl) h with ⟨hcs, _⟩ | ⟨a', l, c', zs, hcs, _, hl, hm, hz, hx, hcell, hwz⟩
  · simp only [List.cons.injEq, Value.slice.injEq, and_true] at hcs
    obtain ⟨rfl, rfl, rfl⟩ := hcs
    exact ⟨[], rfl, ⟨none, 0, rfl, Nat.le_refl _, fun _ => rfl, fun h => absurd h (Nat.lt_irrefl 0)⟩, isB8_nil, by omega⟩
  · simp only [List.cons.injEq, Value.slice.injEq, and_true] at hcs
    obtain ⟨rfl, rfl, rfl⟩ := hcs
    have hnz : n ≤ zs.length := by rw [hz]; split <;> omega
    have hlen : (zs.take n).length = n := by rw [List.length_take]; omega
    have hs : n ≤ 140737488351232 := by
      have := hw ((((lits IntKind.u8 (zs.take n)) : List (DataW H)).length + ((lits IntKind.u8 (zs.drop n)) : List (DataW H)).length) * Try.prog.bytesOf 5) (by rw [hx]; simp [DataW.weights, Try.underlying29])
      rw [show Try.prog.bytesOf 5 = 1 by kernel_rfl] at this
      simp only [lits, List.length_map, hlen, reachBytes] at this
      omega
    refine ⟨zs.take n, hlen, ⟨some a', c, by rw [hlen], by rw [hlen]; exact hl, (fun h => by cases h), fun h0 => ?_⟩, fun z hz => ?_, hs⟩
    · rw [hlen] at h0 ⊢
      obtain ⟨b, o, s⟩ := a'
      obtain rfl : s = none := by simpa [Addr.add] using World.cell?_spot (hcell 0 (by omega))
      refine ⟨b, o, rfl, World.block_lt_of_cell? W _ (hcell 0 (by omega)), fun i hi => ?_⟩
      rw [← Go.WideShapes.add_plain, hcell i (by omega)]
      simp [List.getD_eq_getElem?_getD, hi]
    · have := bounds_u8 (hwz z (List.mem_of_mem_take hz))
      omega

theorem texts_in8 {a : Option Addr} {n c : Nat} {x : DataW H × List MemPlace} (h : DataW.trod enc Try.prog W base spare held fuel 36 [.slice a n c] = some x) :
    ∃ zs : List ByteArray, zs.length = n ∧ HasT8 W (.slice a n c) zs ∧ (n : Int) ≤ 9223372036854775807 ∧ ∀ s ∈ zs, s.size ≤ maxLen := by
  rcases open_strings Try.underlying36 Try.underlying9 (by kernel_rfl) h with ⟨hcs, _⟩ | ⟨a', len, cap, ss, hcs, _, hl, hm, hz, _, hcell, hsz⟩
  · simp only [List.cons.injEq, Value.slice.injEq, and_true] at hcs
    obtain ⟨rfl, rfl, rfl⟩ := hcs
    exact ⟨[], rfl, ⟨none, 0, rfl, Nat.le_refl _, fun _ => rfl, fun h => absurd h (Nat.lt_irrefl 0)⟩, by omega, fun s hs => by cases hs⟩
  · simp only [List.cons.injEq, Value.slice.injEq, and_true] at hcs
    obtain ⟨rfl, rfl, rfl⟩ := hcs
    have hss : n ≤ ss.length := by rw [hz]; split <;> omega
    have hlen : (ss.take n).length = n := by rw [List.length_take]; omega
    refine ⟨ss.take n, hlen, ⟨some a', c, by rw [hlen], by rw [hlen]; exact hl, (fun h => by cases h), fun h0 => ?_⟩, by unfold maxLen at hm; omega, fun s hs => hsz s (List.mem_of_mem_take hs)⟩
    rw [hlen] at h0 ⊢
    obtain ⟨b, o, s⟩ := a'
    obtain rfl : s = none := by simpa [Addr.add] using World.cell?_spot (hcell 0 (by omega))
    refine ⟨b, o, rfl, World.block_lt_of_cell? W _ (hcell 0 (by omega)), fun i hi => ?_⟩
    rw [← Go.WideShapes.add_plain, hcell i (by omega)]
    simp [List.getD_eq_getElem?_getD, hi]

set_option maxRecDepth 100000 in
theorem act_in8 {cs : List Value} {x : DataW H × List MemPlace} (hlen : cs.length = 6) (h : DataW.trod enc Try.prog W base spare held fuel 31 cs = some x) (hw : ∀ q ∈ x.1.weights Try.prog 31, q ≤ reachBytes) :
    ∃ A : Act8, cs = A.cells ∧ Fits8 W A := by
  obtain ⟨xs, k', hk, hxy, _, hxl, hf⟩ := DataW.trod_struct Try.underlying31 h
  match xs, hxl, cs, hlen with
  | [y0, y1, y2, y3, y4, y5], _, [v0, v1, v2, v3, v4, v5], _ =>
    have g0 := hf 0 _ rfl
    have g1 := hf 1 _ rfl
    have g2 := hf 2 _ rfl
    have g3 := hf 3 _ rfl
    have g4 := hf 4 _ rfl
    have g5 := hf 5 _ rfl
    simp [show Try.prog.cellsOf 9 = 1 by kernel_rfl, show Try.prog.cellsOf 3 = 1 by kernel_rfl, show Try.prog.cellsOf 29 = 1 by kernel_rfl] at g0 g1 g2 g3 g4 g5
    simp only [List.map_cons, List.map_nil] at hxy
    have hx1 : x.1 = .agg [y0.1, y1.1, y2.1, y3.1, y4.1, y5.1] := by rw [hxy]
    rw [hx1] at hw
    simp only [DataW.weights, Try.underlying31, DataW.weightsEach, List.map_cons, List.map_nil, List.append_nil, List.mem_append] at hw
    obtain ⟨z, hz, rfl, wz⟩ := DataW.trod_int Try.underlying3 g0
    obtain ⟨s1, hs1, rfl, _⟩ := DataW.trod_string Try.underlying9 g1
    obtain ⟨s2, hs2, rfl, _⟩ := DataW.trod_string Try.underlying9 g2
    obtain ⟨z4, hz4, rfl, wz4⟩ := DataW.trod_int Try.underlying3 g4
    obtain ⟨z5, hz5, rfl, wz5⟩ := DataW.trod_int Try.underlying3 g5
    cases hz; cases hs1; cases hs2; cases hz4; cases hz5
    have hs : ∃ a m k, v3 = .slice a m k := by
      rcases open_slice Try.underlying29 g3 with ⟨hcs, _⟩ | ⟨a', len, cap, m, k, D, Pl, hcs, _⟩
      · simp at hcs; exact ⟨_, _, _, hcs⟩
      · simp at hcs; exact ⟨_, _, _, hcs⟩
    obtain ⟨a, n, c, rfl⟩ := hs
    obtain ⟨zs, rfl, h1, h2, h3⟩ := bytes_in8 g3 fun q hq => hw q (by simp only [hq, true_or, or_true])
    have q1 := hw s1.data.toList.length (by simp [DataW.weights])
    have q2 := hw s2.data.toList.length (by simp [DataW.weights])
    unfold reachBytes at q1 q2
    rw [Array.length_toList] at q1 q2
    exact ⟨⟨z, s1, s2, a, c, zs, z4, z5⟩, rfl, h1, h2, h3, q1, q2, bounds_i64 wz, bounds_i64 wz4, bounds_i64 wz5⟩

theorem weights_all8 {P : Program} {e : TypeId} : ∀ {ds : List (DataW H)} {d : DataW H}, d ∈ ds → ∀ q ∈ d.weights P e, q ∈ DataW.weightsAll P e ds
  | d0 :: ds, d, hd, q, hq => by
    simp only [DataW.weightsAll, List.mem_append]
    rcases List.mem_cons.1 hd with rfl | hd
    · exact .inl hq
    · exact .inr (weights_all8 hd q hq)

set_option maxRecDepth 100000 in
theorem acts_in8 {a : Option Addr} {n c : Nat} {x : DataW H × List MemPlace} (h : DataW.trod enc Try.prog W base spare held fuel 22 [.slice a n c] = some x) (hw : ∀ q ∈ x.1.weights Try.prog 22, q ≤ reachBytes) :
    ∃ zs : List Act8, zs.length = n ∧ HasA8 W (.slice a n c) zs ∧ (n : Int) ≤ 9223372036854775807 := by
  rcases open_slice Try.underlying22 h with ⟨hcs, _⟩ | ⟨a', len, cap, m, k, D, Pl, hcs, hb, hl, hm, hmm, rfl, hx⟩
  · simp only [List.cons.injEq, Value.slice.injEq, and_true] at hcs
    obtain ⟨rfl, rfl, rfl⟩ := hcs
    exact ⟨[], rfl, ⟨none, 0, rfl, Nat.le_refl _, fun _ => rfl, fun h => absurd h (Nat.lt_irrefl 0), fun x hx => by cases hx⟩, by omega⟩
  · simp only [List.cons.injEq, Value.slice.injEq, and_true] at hcs
    obtain ⟨rfl, rfl, rfl⟩ := hcs
    have hlm : n ≤ m := by rw [hmm]; split <;> omega
    rw [show Try.prog.cellsOf 31 = 6 by kernel_rfl] at hx
    have each : ∀ i, i < n → ∃ A : Act8, (∀ j, j < 6 → W.cell? ((a'.add (i * 6)).add j) = A.cells[j]?) ∧ Fits8 W A := by
      intro i hi
      obtain ⟨cs', h1, h2⟩ := hx i (by omega)
      obtain ⟨_, hlen, hcell⟩ := World.cells?_some h1
      obtain ⟨A, rfl, hA⟩ := act_in8 hlen h2 fun q hq => hw q (by
        simp only [DataW.weights, Try.underlying22, List.mem_cons, List.mem_append]
        exact .inr (.inl (weights_all8 (List.mem_map.2 ⟨i, List.mem_range.2 hi, rfl⟩) q hq)))
      exact ⟨A, fun j hj => hcell j hj, hA⟩
    obtain ⟨A, hA⟩ := choose_lt each
    have hlen : ((List.range n).map A).length = n := by simp
    have hget : ∀ i, i < n → ((List.range n).map A).getD i default = A i := fun i hi => by simp [List.getD_eq_getElem?_getD, hi]
    refine ⟨(List.range n).map A, hlen, ⟨some a', c, by rw [hlen], by rw [hlen]; exact hl, (fun h => by cases h), fun h0 => ?_, fun x hx => ?_⟩, by unfold maxLen at hm; omega⟩
    · rw [hlen] at h0 ⊢
      obtain ⟨b, o, s⟩ := a'
      have h00 := (hA 0 h0).1 0 (by omega)
      obtain rfl : s = none := by simpa [Addr.add] using World.cell?_spot h00
      refine ⟨b, o, rfl, World.block_lt_of_cell? W _ h00, fun i hi => ?_⟩
      have h1 := (hA i hi).1
      rw [hget i hi]
      have e := fun j (hj : j < 6) => h1 j hj
      simp only [Go.WideShapes.add_plain] at e
      exact ⟨e 0 (by omega), e 1 (by omega), e 2 (by omega), e 3 (by omega), e 4 (by omega), e 5 (by omega)⟩
    · obtain ⟨i, hi, rfl⟩ := List.mem_map.1 hx
      exact (hA i (List.mem_range.1 hi)).2

set_option maxRecDepth 100000 in
theorem open_act8 {v : Value} {d : DataW H} {p : List MemPlace} (hv : Value.okWide Try.prog W .any b0 31 v) (h : DataW.Trod enc Try.prog W base spare held 31 v d p) (hw : ∀ q ∈ d.weights Try.prog 31, q ≤ reachBytes) :
    ∃ A : Act8, v = .agg A.cells.toArray ∧ Fits8 W A := by
  obtain ⟨cs, rfl, hsz⟩ := okWide_struct Try.underlying31 hv
  rw [show Try.prog.cellsOf 31 = 6 by kernel_rfl] at hsz
  obtain ⟨fuel, hf⟩ := h
  obtain ⟨A, hc, hA⟩ := act_in8 (x := (d, p)) (by rw [show (Value.cells (.agg cs)).toList = cs.toList from rfl, Array.length_toList]; exact hsz) hf hw
  refine ⟨A, ?_, hA⟩
  have : cs.toList = A.cells := hc
  rw [← this]
end
end Go.Proofs.Ytefgnehahedckaa

/-
  A disk on which nothing is armed: what a call leaves of its room.
-/
namespace Go.Proofs.Ytefgnehahedckaa
open Go.RowKit Go.Maps

/-- Nothing is armed, the power is on, and so many operations were done at most. -/
structure Calm8 (nb c : Nat) (M : DM) : Prop where
  ok : M.OkN c
  off : M.off = false
  n : M.n = 0
  blocks : M.blocks = nb
def DM.Like (M N : DM) : Prop := N.off = M.off ∧ N.n = M.n ∧ N.blocks = M.blocks
section
variable {nb c : Nat} {M : DM}
theorem Calm8.act (h : Calm8 nb c M) (f : DM → Nat × DM) : M.act f = f M.begun ∧ M.begun = { M with ops := M.ops + 1 } := by
  have hb : M.begins = true := decide_eq_true (by rw [h.n]; decide)
  unfold DM.act
  rw [hb, if_pos rfl]
  refine ⟨rfl, ?_⟩
  unfold DM.begun
  have hn := h.n
  rw [if_neg (by rw [hn]; decide), hn]
theorem Calm8.of_act (h : Calm8 nb c M) {f : DM → Nat × DM} (hf : ∀ N : DM, N.Like (f N).2) (hO : (M.act f).2.OkN (c + 1)) : Calm8 nb (c + 1) (M.act f).2 := by
  obtain ⟨h1, h2, h3⟩ := hf M.begun
  rw [(h.act f).1] at hO ⊢
  refine ⟨hO, ?_, ?_, ?_⟩
  · rw [h1, (h.act f).2]; exact h.off
  · rw [h2, (h.act f).2]; exact h.n
  · rw [h3, (h.act f).2]; exact h.blocks
theorem Calm8.mono (h : Calm8 nb c M) : Calm8 nb (c + 1) M := ⟨h.ok.mono (Nat.le_succ _), h.off, h.n, h.blocks⟩
/-- What is refused changes nothing. -/
def Room8 (M : DM) (r : Nat × DM) : Prop := r.1 ≠ 0 → r.2.used = M.used ∧ tot r.2.buf = tot M.buf
theorem Room8.same (M : DM) (e : Nat) : Room8 M (e, M) := fun _ => ⟨rfl, rfl⟩
theorem Calm8.create (h : Calm8 nb c M) (x : ByteArray) : Calm8 nb (c + 1) (M.create x).2 ∧ Room8 M (M.create x) := by
  have hO := h.ok.create x
  unfold DM.create at hO ⊢
  rw [if_neg (by rw [h.off]; decide)] at hO ⊢
  split
  · exact ⟨h.mono, Room8.same _ _⟩
  · rename_i h1
    rw [if_neg h1] at hO
    refine ⟨h.of_act (fun N => ?_) hO, ?_⟩
    · unfold DM.create1
      split
      · exact ⟨rfl, rfl, rfl⟩
      · split <;> exact ⟨rfl, rfl, rfl⟩
    · rw [(h.act _).1, (h.act fun M => (0, M)).2]
      show Room8 M (DM.create1 _ x)
      unfold DM.create1
      split
      · exact fun h => absurd rfl h
      · split
        · exact fun _ => ⟨rfl, rfl⟩
        · exact fun h => absurd rfl h
theorem Calm8.append (h : Calm8 nb c M) (x : ByteArray) {b : List Int} (hb : isB8 b) : Calm8 nb (c + 1) (M.append x b).2 ∧ Room8 M (M.append x b) := by
  have hO := h.ok.append x hb
  unfold DM.append at hO ⊢
  rw [if_neg (by rw [h.off]; decide)] at hO ⊢
  split
  · exact ⟨h.mono, Room8.same _ _⟩
  · rename_i h1
    rw [if_neg h1] at hO
    refine ⟨h.of_act (fun N => ?_) hO, ?_⟩
    · unfold DM.append1
      split <;> exact ⟨rfl, rfl, rfl⟩
    · rw [(h.act _).1, (h.act fun M => (0, M)).2]
      show Room8 M (DM.append1 _ x b)
      unfold DM.append1
      split
      · exact fun _ => ⟨rfl, rfl⟩
      · exact fun h => absurd rfl h
theorem Calm8.syncs (h : Calm8 nb c M) : Calm8 nb (c + 1) M.syncs.2 ∧ Room8 M M.syncs ∧ M.syncs = (0, { M.sync with ops := M.ops + 1 }) := by
  have hO := h.ok.syncs
  have e : M.syncs = (0, { M.sync with ops := M.ops + 1 }) := by
    unfold DM.syncs
    rw [if_neg (by rw [h.off]; decide), (h.act _).1, (h.act fun M => (0, M)).2]
    rfl
  rw [e] at hO ⊢
  exact ⟨⟨hO, h.off, h.n, h.blocks⟩, fun h => absurd rfl h, rfl⟩
theorem Calm8.rename (h : Calm8 nb c M) (a b : ByteArray) : Calm8 nb (c + 1) (M.rename a b).2 ∧ Room8 M (M.rename a b) := by
  have hO := h.ok.rename a b
  unfold DM.rename at hO ⊢
  rw [if_neg (by rw [h.off]; decide)] at hO ⊢
  split
  · exact ⟨h.mono, Room8.same _ _⟩
  · rename_i h1
    rw [if_neg h1] at hO
    split
    · exact ⟨h.mono, Room8.same _ _⟩
    · rename_i h2
      rw [if_neg h2] at hO
      refine ⟨h.of_act (fun N => ?_) hO, ?_⟩
      · show N.Like (N.rename1 a b)
        unfold DM.rename1
        split <;> exact ⟨rfl, rfl, rfl⟩
      · rw [(h.act _).1]
        exact fun h => absurd rfl h
theorem Calm8.remove (h : Calm8 nb c M) (x : ByteArray) : Calm8 nb (c + 1) (M.remove x).2 ∧ Room8 M (M.remove x) ∧ ((M.remove x).1 = 0 → (M.remove x).2.used < M.used) ∧ (x ∈ M.names → (M.remove x).1 = 0 ∧ (M.remove x).2.names = M.names.filter fun y => decide (y ≠ x)) := by
  have hO := h.ok.remove x
  unfold DM.remove at hO ⊢
  rw [if_neg (by rw [h.off]; decide)] at hO ⊢
  split
  · rename_i h1
    exact ⟨h.mono, Room8.same _ _, (fun h => by cases h), fun h2 => absurd h2 h1⟩
  · rename_i h1
    rw [if_neg h1] at hO
    refine ⟨h.of_act (fun N => ⟨rfl, rfl, rfl⟩) hO, ?_⟩
    rw [(h.act _).1, (h.act fun M => (0, M)).2]
    refine ⟨fun h => absurd rfl h, fun _ => ?_, fun _ => ⟨rfl, ?_⟩⟩
    · have := DM.used_gone h.ok.inv (x := x) (Decidable.not_not.1 h1)
      have h2 := need_pos (M.bytes x).length
      show (M.gone x).used < M.used
      omega
    · show List.map Prod.fst (M.L.filter _) = List.filter _ (List.map Prod.fst M.L)
      rw [List.filter_map]
      rfl
theorem Calm8.used (h : Calm8 nb c M) : M.usedT = M.used ∧ M.pendT = tot M.buf ∧ M.used ≤ nb ∧ M.listT = M.names := by
  unfold DM.usedT DM.pendT DM.listT
  rw [if_neg (by rw [h.off]; decide), if_neg (by rw [h.off]; decide), if_neg (by rw [h.off]; decide), ← h.blocks]
  exact ⟨rfl, rfl, h.ok.inv.fits, rfl⟩
theorem Calm8.none (h : Calm8 nb c M) (hn : M.names = []) : M.usedT = 0 ∧ M.pendT = 0 := by
  have hL : M.L = [] := by
    have : M.L.map Prod.fst = [] := hn
    simpa using this
  have hb : M.buf = [] := by
    rcases hbb : M.buf with _ | ⟨w, r⟩
    · rfl
    · have := h.ok.inv.mem w (by rw [hbb]; exact List.mem_cons_self)
      rw [hn] at this
      cases this
  rw [h.used.1, h.used.2.1]
  unfold DM.used
  rw [hL, hb]
  exact ⟨rfl, rfl⟩
end
theorem short9 (x : ByteArray) (h : x.size ≤ 15000) : x.size ≤ maxLen := by unfold maxLen; omega
theorem filter_first {x : ByteArray} {l : List ByteArray} (h : (x :: l).Nodup) : (x :: l).filter (fun y => decide (y ≠ x)) = l := by
  rw [List.filter_cons_of_neg (by simp)]
  refine List.filter_eq_self.2 fun y hy => decide_eq_true fun e => ?_
  exact (List.nodup_cons.1 h).1 (e ▸ hy)
/-- What an act leaves, in the words of a law that looks at the room. -/
def RoomEnd (w0 : World) (d nb c u p : Nat) (e : Ending) (w : World) : Prop :=
  ∃ r : Nat, e = .returned (.int .i64 (r : Nat)) ∧ ∃ (M : DM) (S : Nat → Prop), Disk8 w0 w d S M ∧ Calm8 nb c M ∧ (r = 0 ∨ (r ≠ 0 ∧ M.usedT = u ∧ M.pendT = p))
theorem RoomEnd.of {nb c : Nat} {M : DM} (h : Calm8 nb c M) {r : Nat × DM} (hr : Calm8 nb (c + 1) r.2 ∧ Room8 M r) {w0 w w' : World} {d : Nat} {S : Nat → Prop} {e : Ending} (he : e = .returned (.int .i64 (r.1 : Nat)) ∧ Disk8 w0 w' d (more8 S w w') r.2 ∧ Turn S w w') : RoomEnd w0 d nb (c + 1) M.usedT M.pendT e w' := by
  refine ⟨r.1, he.1, r.2, _, he.2.1, hr.1, ?_⟩
  by_cases h0 : r.1 = 0
  · exact .inl h0
  · obtain ⟨h1, h2⟩ := hr.2 h0
    refine .inr ⟨h0, ?_, ?_⟩
    · rw [hr.1.used.1, h1, h.used.1]
    · rw [hr.1.used.2.1, h2, h.used.2.1]
end Go.Proofs.Ytefgnehahedckaa
