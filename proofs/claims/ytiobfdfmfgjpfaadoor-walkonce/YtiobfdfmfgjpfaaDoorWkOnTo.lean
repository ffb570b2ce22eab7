import Derived.Test.YtiobfdfmfgjpfaaDoorWkOTo
import Derived.Test.YtiobfdfmfgjpfaaDoorSwYTo
import Derived.Test.YtiobfdfmfgjpfaaDoorSwEsTo
import Derived.BigQuiet
import Derived.Deep.DeepCutAuto
/-
  One map and a walk over it, and rows beside them: what Put, Delete, Get, Next and stores leave of them.
-/
namespace Go.Proofs.YtiobfdfmfgjpfaaDoor
open Go.RowKit Go.Shelf

/-- The map at b is M, and is the call's own. -/
def One (w wr : World) (b : Nat) (M : SM) : Prop :=
  (∃ bw bs, Lies 81 77 wr b bw bs M ∧ w.heap.size ≤ b ∧ w.heap.size ≤ bw ∧ w.heap.size ≤ bs) ∧ M.Inv IsV_s ∧ Below w.heap.size w wr
/-- The kinds of blocks that a map and a walk write. -/
def kindsM : List TypeId := [81, 22, 77, 89]
section
variable {w wr w' : World} {b x : Nat} {M : SM} {ks : List ByteArray}
theorem One.bel (h : One w wr b M) : Below w.heap.size w wr := h.2.2
theorem One.below (h : One w wr b M) (hb : Below wr.heap.size wr w') : One w w' b M := by
  obtain ⟨⟨bw, bs, h1, h2⟩, h3, h4⟩ := h
  exact ⟨⟨bw, bs, h1.below hb (Nat.le_refl _), h2⟩, h3, h4.trans (hb.mono h4.size)⟩
theorem One.put (h : One w wr b M) (hT : Tab w) (key v : ByteArray) (hk : key.size < 140737488355328) :
    Calls Tryd.prog 11 #[.pointer (some ⟨b, 0, none⟩), .string key, .string v] wr fun e w' => e = .returned (.tuple #[.bool (M.put key (.string v) (.string ⟨#[]⟩)).1, .int .i64 ((M.put key (.string v) (.string ⟨#[]⟩)).2.1 : Nat)]) ∧ One w w' b (M.put key (.string v) (.string ⟨#[]⟩)).2.2 ∧ Kinds [81, 22, 77] wr w' := by
  obtain ⟨⟨bw, bs, h1, g1, g2, g3⟩, h4, h6⟩ := h
  obtain ⟨t3, _, _, _⟩ := inv_put h4 (key := key) (v := .string v) (z := .string ⟨#[]⟩) (isV_string _) (isV_string _) hk
  refine (put_any_s b bw bs M key v wr (hT.below h6 hT.1) h1 (sane_of_inv h4) hk).mono ?_
  rintro e w' ⟨rfl, bw', bs', f1, f2, f3, f4⟩
  have := h6.size
  exact ⟨rfl, ⟨⟨bw', bs', f1, g1, by omega, by omega⟩, t3, h6.trans (f2.below (by simp; omega) h6.size)⟩, Kinds.of h1 f2⟩
theorem One.del (h : One w wr b M) (hT : Tab w) (key : ByteArray) (hk : key.size < 140737488355328) :
    Calls Tryd.prog 15 #[.pointer (some ⟨b, 0, none⟩), .string key] wr fun e w' => e = .returned (.bool (M.del key (.string ⟨#[]⟩)).1) ∧ One w w' b (M.del key (.string ⟨#[]⟩)).2 ∧ Kinds [81, 22, 77] wr w' := by
  obtain ⟨⟨bw, bs, h1, g1, g2, g3⟩, h4, h6⟩ := h
  obtain ⟨t3, _⟩ := inv_del h4 (key := key) (z := .string ⟨#[]⟩) (isV_string _)
  refine (delete_any_s b bw bs M key wr (hT.below h6 hT.1) h1 (sane_of_inv h4) hk).mono ?_
  rintro e w' ⟨rfl, f1, f2⟩
  exact ⟨rfl, ⟨⟨bw, bs, f1, g1, g2, g3⟩, t3, h6.trans (f2.below (by simp; omega) h6.size)⟩, Kinds.of h1 f2⟩
theorem One.get (h : One w wr b M) (hT : Tab w) (key : ByteArray) (hk : key.size < 140737488355328) :
    Calls Tryd.prog 21 #[.pointer (some ⟨b, 0, none⟩), .string key] wr fun e w' => e = .returned (.tuple #[.string (valK M key), .bool (M.find key).isSome]) ∧ Below wr.heap.size wr w' := by
  obtain ⟨⟨bw, bs, h1, g1, g2, g3⟩, h4, h6⟩ := h
  have := get_map_s b bw bs M key wr (hT.below h6 hT.1) h1 h4.fit h4.typed hk
  rw [get_val h4, get_is] at this
  exact this
theorem One.keys (h : One w wr b M) (hT : Tab w) :
    Calls Tryd.prog 20 #[.pointer (some ⟨b, 0, none⟩)] wr fun e w' => ∃ g, e = .returned (.slice (some ⟨g, 0, none⟩) M.n M.n) ∧ RowT w' (.slice (some ⟨g, 0, none⟩) M.n M.n) M.keys ∧ Below wr.heap.size wr w' := by
  obtain ⟨⟨bw, bs, h1, g1, g2, g3⟩, h4, h6⟩ := h
  refine (keys_any_s b bw bs M wr (hT.below h6 hT.1) h1 h4.fit (full_n h4)).mono ?_
  rintro e w' ⟨g, rfl, hg, ho, hb⟩
  exact ⟨g, rfl, RowT.of_owns (B := 0) (by unfold OwnsT; rw [keys_len h4]; exact ho), hb⟩
theorem One.other (h : One w wr b M) {t : TypeId} {k : Nat} {cc : Array Value} {f : Nat × Nat} (ht : t ∉ [81, 22, 77]) (hk : wr.heap[k]? = some (Obj.cells cc t f)) (hkw : w.heap.size ≤ k) (hb : But [k] wr w') : One w w' b M := by
  obtain ⟨⟨bw, bs, h1, g1, g2, g3⟩, h4, h6⟩ := h
  exact ⟨⟨bw, bs, h1.other ht hk hb, g1, g2, g3⟩, h4, h6.trans (hb.below (by simpa using hkw) h6.size)⟩
theorem one_new {W u : World} {c1 cw1 cs1 g : Nat} {k0 k1 : Int} (hB0 : Below w.heap.size w W) (hl1 : Lies 81 77 u c1 cw1 cs1 (SM.empty k0 k1 (.string ⟨#[]⟩) g)) (hz : isGood (g : Int) = true) (f1 : W.heap.size ≤ c1) (f2 : W.heap.size ≤ cw1) (f3 : W.heap.size ≤ cs1) (hb1 : Below W.heap.size W u) :
    One w u c1 (SM.empty k0 k1 (.string ⟨#[]⟩) g) := by
  obtain ⟨i1, _⟩ := inv_empty k0 k1 (.string ⟨#[]⟩) g hz (isV_string _)
  have e1 := hB0.size
  exact ⟨⟨cw1, cs1, hl1, by omega, by omega, by omega⟩, i1, hB0.trans (hb1.mono e1)⟩
/-- A map and a walk over it. -/
def Rove (w wr : World) (b x : Nat) (M : SM) (ks : List ByteArray) : Prop :=
  One w wr b M ∧ Wk 89 wr x (.pointer (some ⟨b, 0, none⟩)) ks ∧ w.heap.size ≤ x ∧ ∀ k ∈ ks, k.size < 140737488355328
theorem One.walk (h : One w wr b M) (hT : Tab w) :
    Calls Tryd.prog 13 #[.pointer (some ⟨b, 0, none⟩)] wr fun e w' => ∃ x, e = .returned (.pointer (some ⟨x, 0, none⟩)) ∧ Rove w w' b x M M.keys ∧ Below wr.heap.size wr w' := by
  obtain ⟨⟨bw, bs, h1, g1, g2, g3⟩, h4, h6⟩ := id h
  refine (wnew_any_s b bw bs M wr (hT.below h6 hT.1) h1 h4).mono ?_
  rintro e w' ⟨x, rfl, f1, f2, _, f3⟩
  have := h6.size
  exact ⟨x, rfl, ⟨h.below f3, f1, by omega, fun k hk => keys_size h4 hk⟩, f3⟩
theorem Rove.below (h : Rove w wr b x M ks) (hb : Below wr.heap.size wr w') : Rove w w' b x M ks := ⟨h.1.below hb, h.2.1.below hb, h.2.2⟩
theorem Rove.next (h : Rove w wr b x M ks) (hT : Tab w) :
    Calls Tryd.prog 17 #[.pointer (some ⟨x, 0, none⟩)] wr fun e w' => e = .returned (.tuple #[.string (M.nk ks), .string (M.nv ks), .bool (M.nb ks)]) ∧ Rove w w' b x M (M.skip ks).tail ∧ Kinds kindsM wr w' := by
  obtain ⟨⟨bw, bs, h1, g1, g2, g3⟩, h4, h6⟩ := id h.1
  obtain ⟨v, q1, _⟩ := id h.2.1
  have := hT.1
  have hx := h.2.2.1
  refine (wnext_any_s x b bw bs M ks wr (hT.below h6 hT.1) h1 h4 h.2.2.2 (by omega) h.2.1).mono ?_
  rintro e w' ⟨rfl, f1, f2⟩
  refine ⟨rfl, ⟨h.1.other (by decide) q1 hx f2, f1, hx, fun k hk' => h.2.2.2 k ?_⟩, (Kinds.one q1 f2).mono (by decide)⟩
  obtain ⟨pre, e, _⟩ := skip_split M ks
  rw [e]
  exact List.mem_append_right _ (List.mem_of_mem_tail hk')
theorem Rove.other (h : Rove w wr b x M ks) {t : TypeId} {k : Nat} {cc : Array Value} {f : Nat × Nat} (ht : t ∉ kindsM) (hs : t ≠ 9) (hk : wr.heap[k]? = some (Obj.cells cc t f)) (hkw : w.heap.size ≤ k) (hb : But [k] wr w') : Rove w w' b x M ks := by
  simp only [kindsM, List.mem_cons, List.not_mem_nil, or_false, not_or] at ht
  exact ⟨h.1.other (by simp only [List.mem_cons, List.not_mem_nil, or_false, not_or]; exact ⟨ht.1, ht.2.1, ht.2.2.1⟩) hk hkw hb, h.2.1.kinds (Kinds.one hk hb) (by simpa using Ne.symm hs) (by simpa using Ne.symm ht.2.2.2), h.2.2⟩

/-- A row of values in a block of its own. -/
def Blk (w : World) (g : Nat) (t : TypeId) (l : List Value) : Prop := w.heap[g]? = some (Obj.cells l.toArray t (0, 0))
theorem Blk.cell {g : Nat} {t : TypeId} {l : List Value} (h : Blk w g t l) {j : Nat} {v : Value} (hj : l[j]? = some v) : w.cell? ⟨g, j, none⟩ = some v := by
  unfold World.cell?
  dsimp only
  rw [h]
  simpa using hj
theorem Blk.free {g : Nat} {t : TypeId} {l : List Value} (h : Blk w g t l) (j : Nat) : w.frozen? ⟨g, j, none⟩ = false := by
  unfold Blk at h
  simp [World.frozen?, h]
theorem Blk.set {g : Nat} {t : TypeId} {l : List Value} (h : Blk w g t l) (j : Nat) (v : Value) : Blk (w.setCell ⟨g, j, none⟩ v) g t (l.set j v) := by
  unfold Blk at h ⊢
  simp [World.setCell, Array.getElem?_modify, h]
def boolsV (gs : List Bool) : List Value := gs.map Value.bool
def intsV (ts : List Nat) : List Value := ts.map fun n : Nat => Value.int .i64 (n : Int)
theorem boolsV_at {gs : List Bool} {j : Nat} (hj : j < gs.length) : (boolsV gs)[j]? = some (.bool (gs.getD j false)) := by simp [boolsV, List.getElem?_eq_getElem hj]
theorem intsV_at {ts : List Nat} {j : Nat} (hj : j < ts.length) : (intsV ts)[j]? = some (.int .i64 ((ts.getD j 0 : Nat) : Int)) := by simp [intsV, List.getElem?_eq_getElem hj]
/-- A map, a walk over it, the keys of the beginning, which of them are gone, how often each was told. -/
def Camp (w wr : World) (b x g1 g2 : Nat) (vb : Value) (M : SM) (ks bg : List ByteArray) (gs : List Bool) (ts : List Nat) : Prop :=
  Rove w wr b x M ks ∧ RowT wr vb bg ∧ Blk wr g1 4 (boolsV gs) ∧ Blk wr g2 3 (intsV ts) ∧ w.heap.size ≤ g1 ∧ w.heap.size ≤ g2
variable {g1 g2 : Nat} {vb : Value} {bg : List ByteArray} {gs : List Bool} {ts : List Nat}
theorem Camp.bel (h : Camp w wr b x g1 g2 vb M ks bg gs ts) : Below w.heap.size w wr := h.1.1.bel
theorem Camp.kinds (h : Camp w wr b x g1 g2 vb M ks bg gs ts) {M' : SM} {ks' : List ByteArray} (hr : Rove w w' b x M' ks') (hk : Kinds kindsM wr w') : Camp w w' b x g1 g2 vb M' ks' bg gs ts :=
  ⟨hr, h.2.1.kinds hk (by decide), hk _ _ _ _ (by decide) h.2.2.1, hk _ _ _ _ (by decide) h.2.2.2.1, h.2.2.2.2⟩
theorem Camp.below (h : Camp w wr b x g1 g2 vb M ks bg gs ts) (hb : Below wr.heap.size wr w') : Camp w w' b x g1 g2 vb M ks bg gs ts := h.kinds (h.1.below hb) (Kinds.below hb)
theorem Camp.drewN (h : Camp w wr b x g1 g2 vb M ks bg gs ts) (n : Nat) : Camp w (wr.drewN n) b x g1 g2 vb M ks bg gs ts := h.below ⟨rfl, rfl, rfl, Nat.le_refl _, fun _ _ => rfl⟩
theorem Camp.put (h : Camp w wr b x g1 g2 vb M ks bg gs ts) (hT : Tab w) (key v : ByteArray) (hk : key.size < 140737488355328) :
    Calls Tryd.prog 11 #[.pointer (some ⟨b, 0, none⟩), .string key, .string v] wr fun e w' => e = .returned (.tuple #[.bool (M.put key (.string v) (.string ⟨#[]⟩)).1, .int .i64 ((M.put key (.string v) (.string ⟨#[]⟩)).2.1 : Nat)]) ∧ Camp w w' b x g1 g2 vb (M.put key (.string v) (.string ⟨#[]⟩)).2.2 ks bg gs ts ∧ Kinds kindsM wr w' := by
  refine (h.1.1.put hT key v hk).mono ?_
  rintro e w' ⟨rfl, h1, h2⟩
  exact ⟨rfl, h.kinds ⟨h1, h.1.2.1.kinds h2 (by decide) (by decide), h.1.2.2⟩ (h2.mono (by decide)), h2.mono (by decide)⟩
theorem Camp.del (h : Camp w wr b x g1 g2 vb M ks bg gs ts) (hT : Tab w) (key : ByteArray) (hk : key.size < 140737488355328) :
    Calls Tryd.prog 15 #[.pointer (some ⟨b, 0, none⟩), .string key] wr fun e w' => e = .returned (.bool (M.del key (.string ⟨#[]⟩)).1) ∧ Camp w w' b x g1 g2 vb (M.del key (.string ⟨#[]⟩)).2 ks bg gs ts ∧ Kinds kindsM wr w' := by
  refine (h.1.1.del hT key hk).mono ?_
  rintro e w' ⟨rfl, h1, h2⟩
  exact ⟨rfl, h.kinds ⟨h1, h.1.2.1.kinds h2 (by decide) (by decide), h.1.2.2⟩ (h2.mono (by decide)), h2.mono (by decide)⟩
theorem Camp.next (h : Camp w wr b x g1 g2 vb M ks bg gs ts) (hT : Tab w) :
    Calls Tryd.prog 17 #[.pointer (some ⟨x, 0, none⟩)] wr fun e w' => e = .returned (.tuple #[.string (M.nk ks), .string (M.nv ks), .bool (M.nb ks)]) ∧ Camp w w' b x g1 g2 vb M (M.skip ks).tail bg gs ts ∧ Kinds kindsM wr w' := by
  refine (h.1.next hT).mono ?_
  rintro e w' ⟨rfl, h1, h2⟩
  exact ⟨rfl, h.kinds h1 h2, h2⟩
theorem Camp.setG (h : Camp w wr b x g1 g2 vb M ks bg gs ts) (j : Nat) (v : Bool) : Camp w (wr.setCell ⟨g1, j, none⟩ (.bool v)) b x g1 g2 vb M ks bg (gs.set j v) ts ∧ Kinds [4] wr (wr.setCell ⟨g1, j, none⟩ (.bool v)) := by
  have hb : But [g1] wr (wr.setCell ⟨g1, j, none⟩ (.bool v)) := (But.refl _ _).setCell (.inl (by simp)) _
  have hk := Kinds.one h.2.2.1 hb
  refine ⟨⟨h.1.other (by decide) (by decide) h.2.2.1 h.2.2.2.2.1 hb, h.2.1.kinds hk (by decide), ?_, hk _ _ _ _ (by decide) h.2.2.2.1, h.2.2.2.2⟩, hk⟩
  rw [show boolsV (gs.set j v) = (boolsV gs).set j (.bool v) by simp [boolsV, List.map_set]]
  exact h.2.2.1.set j _
theorem Camp.setT (h : Camp w wr b x g1 g2 vb M ks bg gs ts) (j v : Nat) : Camp w (wr.setCell ⟨g2, j, none⟩ (.int .i64 (v : Int))) b x g1 g2 vb M ks bg gs (ts.set j v) := by
  have hb : But [g2] wr (wr.setCell ⟨g2, j, none⟩ (.int .i64 (v : Int))) := (But.refl _ _).setCell (.inl (by simp)) _
  have hk := Kinds.one h.2.2.2.1 hb
  refine ⟨h.1.other (by decide) (by decide) h.2.2.2.1 h.2.2.2.2.2 hb, h.2.1.kinds hk (by decide), hk _ _ _ _ (by decide) h.2.2.1, ?_, h.2.2.2.2⟩
  rw [show intsV (ts.set j v) = (intsV ts).set j (.int .i64 (v : Int)) by simp [intsV, List.map_set]]
  exact h.2.2.2.1.set j _
end
end Go.Proofs.YtiobfdfmfgjpfaaDoor

/-
  The walk of corbellaw06.WalkOnce.
-/
namespace Go.Proofs.YtiobfdfmfgjpfaaDoor
open Go.RowKit Go.Shelf

theorem infoB6 : (Tryd.prog.info? 4).map (fun i => (i.zero, i.size, i.bytes)) = some (some (.bool false), 1, 1) := by kernel_rfl
theorem infoI6 : (Tryd.prog.info? 3).map (fun i => (i.zero, i.size, i.bytes)) = some (some (.int .i64 0), 1, 8) := by kernel_rfl
theorem made_one (v : Value) (n : Nat) : madeCells #[v] n = (List.replicate n v).toArray := by
  apply Array.ext
  · simp [madeCells]
  · intro i h1 h2
    simp [madeCells, Nat.mod_one]
theorem act6 {w : World} {k : Nat} {kd : Int} {ky vl : ByteArray} (hh : w.heap[k]? = some (.cells #[.int .i64 kd, .string ky, .string vl] 33 (0, 0))) : w.cell? ⟨k, 0, none⟩ = some (.int .i64 kd) ∧ w.cell? ⟨k, 1, none⟩ = some (.string ky) ∧ w.cell? ⟨k, 2, none⟩ = some (.string vl) := by
  refine ⟨?_, ?_, ?_⟩
  all_goals
    unfold World.cell?
    dsimp only
    rw [hh]
    rfl

set_option maxRecDepth 10000 in
set_option maxHeartbeats 8000000 in
theorem walkOnce_any (k0 k1 : Int) (p : Option Addr) (n c : Nat) (xs : List Act') (hlen : xs.length = n) (p' : Option Addr) (n' c' : Nat) (xs' : List Act') (hlen' : xs'.length = n') (w : World) (hT : Tab w) (_hk0 : 0 ≤ k0 ∧ k0 ≤ 18446744073709551615) (_hk1 : 0 ≤ k1 ∧ k1 ≤ 18446744073709551615) (hX : HasA w (.slice p n c) xs) (hn : (n : Int) ≤ 9223372036854775807) (hX' : HasA w (.slice p' n' c') xs') (hn' : (n' : Int) ≤ 9223372036854775807) :
    Calls Tryd.prog 4 #[.agg #[.int .u64 k0, .int .u64 k1], .slice p n c, .slice p' n' c'] w fun e w' => e = .returned (.bool true) ∧ Below w.heap.size w w' := by
  have hw0 := hT.1
  have hlives := fun (W : World) (hW : Below w.heap.size w W) => lives_any W (hT.below hW hw0)
  have hB0 : Below w.heap.size w (w.alloc (.cells #[.int .u64 k0, .int .u64 k1] 24)) := (Below.refl _ _).alloc (Nat.le_refl _) _
  have hnew := new_any_s k0 k1 0 (w.alloc (.cells #[.int .u64 k0, .int .u64 k1] 24)) (by omega) (by omega) (by decide)
  rw [show (needI 0).toNat = 1 by decide] at hnew
  go_enter Tryd.func4, Tryd.ntmps4
  go_wp2_with fail
  refine hnew.mono ?_
  rintro e w2 ⟨b, bw, bs, rfl, hl1, g1, g2, g3, hb1⟩
  have hp := one_new hB0 hl1 (by decide) g1 g2 g3 hb1
  have hM0 : (SM.empty k0 k1 (.string ⟨#[]⟩) 1).n = 0 := rfl
  clear hl1 g1 g2 g3 hb1 hnew hB0
  generalize SM.empty k0 k1 (.string ⟨#[]⟩) 1 = M0 at *
  go_wp2_with fail
  refine (few_any p n c xs hlen w2 (hX.below hp.bel (Nat.le_refl _)) hn).mono ?_
  rintro e w3 ⟨r1, rfl, hr1, hb3⟩
  replace hp := hp.below hb3
  clear hb3
  cases r1 with
  | false =>
    go_wp2_with fail
    refine (hlives w3 hp.bel).mono ?_
    rintro e w4 ⟨rfl, hb4⟩
    go_wp2
    go_ret
    exact ⟨rfl, hp.bel.trans (hb4.mono hp.bel.size)⟩
  | true =>
    have hf1 := few_len (hr1 rfl)
    rw [hlen] at hf1
    clear hr1 hlen
    go_wp2_with fail
    refine (few_any p' n' c' xs' hlen' w3 (hX'.below hp.bel (Nat.le_refl _)) hn').mono ?_
    rintro e w4 ⟨r2, rfl, hr2, hb4⟩
    replace hp := hp.below hb4
    clear hb4
    cases r2 with
    | false =>
      go_wp2_with fail
      refine (hlives w4 hp.bel).mono ?_
      rintro e w5 ⟨rfl, hb5⟩
      go_wp2
      go_ret
      exact ⟨rfl, hp.bel.trans (hb5.mono hp.bel.size)⟩
    | true =>
      have hf2 := few_len (hr2 rfl)
      rw [hlen'] at hf2
      clear hr2 hlen'
      go_wp2
      go_loopw [47] (fun t wr => ∃ (j : Nat) (M : SM), j ≤ n ∧ t = .int .i64 (j : Nat) ∧ M.n ≤ j ∧ One w wr b M) (fun t _ => n - (intOf t).toNat)
      case atStart => exact ⟨0, M0, by omega, rfl, by omega, hp⟩
      case round =>
        obtain ⟨j, M, hj, rfl, hnj, hp⟩ := hrel
        by_cases hlt : j < n
        · obtain ⟨bb, oo, rfl, hbb, hcc, d1, d2, d3, z1, z2⟩ := act_at hX hp.bel hlt
          generalize xs.getD j default = act at *
          obtain ⟨kd, ky, vl⟩ := act
          dsimp only at d1 d2 d3 z1 z2
          have hA := heap_alloc_new wr (.cells #[.int .i64 kd, .string ky, .string vl] 33)
          obtain ⟨a0, a1, a2⟩ := act6 hA
          have ha := hp.below ((Below.refl _ wr).alloc (Nat.le_refl _) (.cells #[.int .i64 kd, .string ky, .string vl] 33))
          clear hp
          obtain ⟨_, _, _, i4⟩ := inv_put ha.2.1 (key := ky) (v := .string vl) (z := (.string ⟨#[]⟩)) (isV_string _) (isV_string _) (by omega)
          obtain ⟨_, _, i7, _⟩ := i4 (by omega)
          have hn' : (M.put ky (.string vl) (.string ⟨#[]⟩)).2.2.n ≤ j + 1 := by rw [i7]; split <;> omega
          clear i4 i7
          go_wp2_with fail
          generalize wr.alloc (.cells #[.int .i64 kd, .string ky, .string vl] 33) = Wa at *
          generalize wr.heap.size = ab at *
          refine (ha.put hT ky vl (by omega)).mono ?_
          rintro e w5 ⟨rfl, h5, q5⟩
          clear ha q5 a0 a1 a2 d1 d2 d3 hA
          generalize (M.put ky (.string vl) (.string ⟨#[]⟩)).2.2 = M' at *
          generalize (M.put ky (.string vl) (.string ⟨#[]⟩)).2.1 = er at *
          generalize (M.put ky (.string vl) (.string ⟨#[]⟩)).1 = is at *
          go_wp2
          go_roundw
          case rel => exact ⟨j + 1, M', by omega, by simp, hn', h5⟩
          case measure => simp only [intOf]; omega
        · obtain rfl : n = j := by omega
          clear hlt hj hX
          have hI := hp.2.1
          have hkl := keys_len hI
          have hnd : M.keys.Nodup := keys_nodup hI
          have hts := told_start hI
          rw [hkl] at hts
          have hks : ∀ k ∈ M.keys, k.size < 140737488355328 := fun k hk => keys_size hI hk
          obtain ⟨i1, hi1, hz1, hs1, hb1⟩ := info_parts infoB6
          have hmk1 := fun W : World => run_make (P := Tryd.prog) W 52 4 i1 _ Tryd.underlying52 hi1 hz1 .i64 .i64 (M.n : Int) (M.n : Int) (by omega) (by omega) (by rw [hb1]; omega) (by omega)
          obtain ⟨i2, hi2, hz2, hs2, hb2⟩ := info_parts infoI6
          have hmk2 := fun W : World => run_make (P := Tryd.prog) W 53 3 i2 _ Tryd.underlying53 hi2 hz2 .i64 .i64 (M.n : Int) (M.n : Int) (by omega) (by omega) (by rw [hb2]; omega) (by omega)
          rw [hs1] at hmk1
          rw [hs2] at hmk2
          simp only [Int.toNat_natCast, Nat.mul_one, Value.cells, made_one] at hmk1 hmk2
          clear hi1 hz1 hs1 hb1 i1 hi2 hz2 hs2 hb2 i2
          go_wp2_with fail
          refine (hp.keys hT).mono ?_
          rintro e w5 ⟨gb, rfl, hrow, hb5⟩
          have h5 := hp.below hb5
          clear hp hb5
          go_wp2_with fail
          have hb6 : Below w5.heap.size w5 ((w5.alloc (.cells (Array.replicate M.n (.bool false)) 4)).alloc (.cells (Array.replicate M.n (.int .i64 0)) 3)) := ((Below.refl _ _).alloc (Nat.le_refl _) _).alloc (by simp) _
          have hg1 : Blk ((w5.alloc (.cells (Array.replicate M.n (.bool false)) 4)).alloc (.cells (Array.replicate M.n (.int .i64 0)) 3)) w5.heap.size 4 (boolsV (List.replicate M.n false)) := by
            unfold Blk
            rw [Below.heap_alloc _ _ _ (by simp), heap_alloc_new]
            simp [boolsV]
          have hg2 : Blk ((w5.alloc (.cells (Array.replicate M.n (.bool false)) 4)).alloc (.cells (Array.replicate M.n (.int .i64 0)) 3)) (w5.heap.size + 1) 3 (intsV (List.replicate M.n 0)) := by
            have := heap_alloc_new (w5.alloc (.cells (Array.replicate M.n (.bool false)) 4)) (.cells (Array.replicate M.n (.int .i64 0)) 3)
            rw [World.size_alloc] at this
            unfold Blk
            rw [this]
            simp [intsV]
          have h6 := h5.below hb6
          have hrow6 := hrow.below hb6
          have hz5 := h5.bel.size
          clear h5 hrow hb6
          generalize (w5.alloc (.cells (Array.replicate M.n (.bool false)) 4)).alloc (.cells (Array.replicate M.n (.int .i64 0)) 3) = W6 at *
          refine (h6.walk hT).mono ?_
          rintro e w7 ⟨x, rfl, hrv, hb7⟩
          have hcamp : Camp w w7 b x w5.heap.size (w5.heap.size + 1) (.slice (some ⟨gb, 0, none⟩) M.n M.n) M (M.keys.drop 0) M.keys (List.replicate M.n false) (List.replicate M.n 0) :=
            ⟨hrv, hrow6.below hb7, (Kinds.below (T := []) hb7) _ _ _ _ (by simp) hg1, (Kinds.below (T := []) hb7) _ _ _ _ (by simp) hg2, hz5, by omega⟩
          clear hrv hrow6 hg1 hg2 hb7 h6 hmk1 hmk2
          have hN : M.n ≤ n := hnj
          clear hnj hI hz5
          generalize w5.heap.size = q1 at *
          generalize q1 + 1 = q2 at *
          generalize M.keys = bg at *
          generalize hNe : M.n = N at *
          have hMn : M.n ≤ n + 0 := by omega
          go_wp2
          go_loopw [14, 15] (fun ti tm wr => ∃ (i m pos : Nat) (M : SM) (gs : List Bool) (ts : List Nat), i ≤ n' ∧ ti = .int .i64 (i : Nat) ∧ tm = .int .i64 (m : Nat) ∧ m ≤ pos ∧ M.n ≤ n + i ∧ Told M bg pos gs ts ∧ Camp w wr b x q1 q2 (.slice (some ⟨gb, 0, none⟩) N N) M (bg.drop pos) bg gs ts) (fun _ tm _ => 2000 - (intOf tm).toNat)
          case atStart => exact ⟨0, 0, 0, M, _, _, by omega, rfl, rfl, Nat.le_refl _, hMn, hts, hcamp⟩
          case round =>
            obtain ⟨i, m, pos, M, gs, ts, hi, rfl, rfl, hmp, hMi, ht, hc⟩ := hrel
            clear hts hcamp hMn hNe
            have hpl := ht.le
            have hm2 : m < 2000 := by omega
            go_upto_if 75 with fail
            go_cut [14, 15] (fun ti tm wc => tm = .int .i64 (m : Nat) ∧ ∃ (i' : Nat) (M' : SM) (gs' : List Bool), ti = .int .i64 (i' : Nat) ∧ i' ≤ n' ∧ M'.n ≤ n + i' ∧ Told M' bg pos gs' ts ∧ Camp w wc b x q1 q2 (.slice (some ⟨gb, 0, none⟩) N N) M' (bg.drop pos) bg gs' ts)
            case first =>
              by_cases hin : i < n'
              · obtain ⟨bb, oo, rfl, hbb, hcc, d1, d2, d3, z1, z2⟩ := act_at hX' hc.bel hin
                generalize xs'.getD i default = act at *
                obtain ⟨kd, ky, vl⟩ := act
                dsimp only at d1 d2 d3 z1 z2
                have hA := heap_alloc_new wr (.cells #[.int .i64 kd, .string ky, .string vl] 33)
                obtain ⟨a0, a1, a2⟩ := act6 hA
                have ha := hc.below ((Below.refl _ wr).alloc (Nat.le_refl _) (.cells #[.int .i64 kd, .string ky, .string vl] 33))
                have hI := hc.1.1.2.1
                clear hc
                by_cases hk1 : kd = 1
                · subst hk1
                  obtain ⟨_, _, _, _, _, i6, _⟩ := inv_del hI (key := ky) (z := (.string ⟨#[]⟩)) (isV_string _)
                  have hn2 : (M.del ky (.string ⟨#[]⟩)).2.n ≤ n + (i + 1) := by omega
                  have ht2 := told_del hI ht (key := ky)
                  clear i6
                  go_wp2_with fail
                  generalize wr.alloc (.cells #[.int .i64 1, .string ky, .string vl] 33) = Wa at *
                  generalize wr.heap.size = ab at *
                  refine (ha.del hT ky (by omega)).mono ?_
                  rintro e w8 ⟨rfl, h8, q8⟩
                  have hA8 := q8 _ _ _ _ (by decide) hA
                  clear ha q8 a0 a1 a2 d1 d2 d3 hA
                  generalize (M.del ky (.string ⟨#[]⟩)).2 = M' at *
                  generalize (M.del ky (.string ⟨#[]⟩)).1 = is at *
                  go_wp2
                  go_loopw [91] (fun t wr => ∃ j : Nat, j ≤ N ∧ t = .int .i64 (j : Nat) ∧ wr.heap[ab]? = some (.cells #[.int .i64 1, .string ky, .string vl] 33 (0, 0)) ∧ Camp w wr b x q1 q2 (.slice (some ⟨gb, 0, none⟩) N N) M' (bg.drop pos) bg (goneTo bg gs ky j) ts) (fun t _ => N - (intOf t).toNat)
                  case atStart => exact ⟨0, by omega, rfl, hA8, by rw [goneTo_zero ht.lg]; exact h8⟩
                  case round =>
                    obtain ⟨j, hj, rfl, hA9, h9⟩ := hrel
                    clear hA8 h8
                    by_cases hjl : j < N
                    · obtain ⟨_, a1, _⟩ := act6 hA9
                      obtain ⟨_, _, hpp, _, hjb, ck⟩ := text_at h9.2.1.has (Below.refl _ _) (Nat.le_refl _) hjl
                      cases hpp
                      rw [Nat.zero_add] at ck
                      have cg := h9.2.2.1.cell (boolsV_at (gs := goneTo bg gs ky j) (j := j) (by rw [goneTo_len]; exact hjb))
                      have fg := h9.2.2.1.free j
                      have hgj : (goneTo bg gs ky j).getD j false = gs.getD j false := by rw [goneTo_at hjb]; simp
                      rw [hgj] at cg
                      have hst : Hid ((goneTo bg gs ky j).set j (gs.getD j false || decide (bg.getD j ByteArray.empty = ky)) = goneTo bg gs ky (j + 1)) := goneTo_step
                      have hj1 : (j : Int) < (N : Int) := by omega
                      clear hgj hjb
                      have hfin : ∀ (nq : Nat) (v : Bool), v = (gs.getD j false || decide (bg.getD j ByteArray.empty = ky)) → ((wr.drewN nq).setCell ⟨q1, j, none⟩ (.bool v)).heap[ab]? = some (.cells #[.int .i64 1, .string ky, .string vl] 33 (0, 0)) ∧ Camp w ((wr.drewN nq).setCell ⟨q1, j, none⟩ (.bool v)) b x q1 q2 (.slice (some ⟨gb, 0, none⟩) N N) M' (bg.drop pos) bg (goneTo bg gs ky (j + 1)) ts := by
                        intro nq v hv
                        obtain ⟨f1, f2⟩ := (h9.drewN nq).setG j v
                        rw [← hst.out, ← hv]
                        exact ⟨f2 _ _ _ _ (by decide) hA9, f1⟩
                      clear hst h9 hA9
                      cases hgv : gs.getD j false with
                      | true =>
                        rw [hgv] at cg hfin
                        clear hgv
                        go_wp2_with fail
                        refine wp_last (by kernel_rfl) (by kernel_rfl) ?_
                        dsimp only [initL, lastL]
                        repeat (go_big_quiet_step (fail))
                        refine wpQuiet_nil ?_
                        rintro _ ⟨nq, rfl⟩
                        gi_wp2
                        obtain ⟨f1, f2⟩ := hfin nq true rfl
                        go_wp2
                        go_roundw
                        case rel => exact ⟨j + 1, by omega, by simp, f1, f2⟩
                        case measure => simp only [intOf]; omega
                      | false =>
                        rw [hgv] at cg hfin
                        clear hgv
                        by_cases hky : bg.getD j ByteArray.empty = ky
                        · rw [hky] at ck hfin
                          clear hky
                          go_wp2_with fail
                          refine wp_last (by kernel_rfl) (by kernel_rfl) ?_
                          dsimp only [initL, lastL]
                          repeat (go_big_quiet_step (fail))
                          refine wpQuiet_nil ?_
                          rintro _ ⟨nq, rfl⟩
                          gi_wp2
                          obtain ⟨f1, f2⟩ := hfin nq true (by simp)
                          go_wp2
                          go_roundw
                          case rel => exact ⟨j + 1, by omega, by simp, f1, f2⟩
                          case measure => simp only [intOf]; omega
                        · rw [decide_eq_false hky] at hfin
                          have hdf := str_ne hky
                          clear hky
                          generalize bg.getD j ByteArray.empty = kk at *
                          go_wp2_with fail
                          refine wp_last (by kernel_rfl) (by kernel_rfl) ?_
                          dsimp only [initL, lastL]
                          repeat (go_big_quiet_step (fail))
                          refine wpQuiet_nil ?_
                          rintro _ ⟨nq, rfl⟩
                          gi_wp2
                          obtain ⟨f1, f2⟩ := hfin nq false rfl
                          go_wp2
                          go_roundw
                          case rel => exact ⟨j + 1, by omega, by simp, f1, f2⟩
                          case measure => simp only [intOf]; omega
                    · obtain rfl : j = N := by omega
                      rw [hkl] at ht2
                      go_wp2
                      go_meet
                      case rel => exact ⟨rfl, i + 1, M', _, by simp, by omega, hn2, ht2, h9⟩
                · obtain ⟨_, _, _, i4⟩ := inv_put hI (key := ky) (v := .string vl) (z := (.string ⟨#[]⟩)) (isV_string _) (isV_string _) (by omega)
                  obtain ⟨_, _, i7, _⟩ := i4 (by omega)
                  have hn2 : (M.put ky (.string vl) (.string ⟨#[]⟩)).2.2.n ≤ n + (i + 1) := by rw [i7]; split <;> omega
                  have ht2 := told_put hI ht (key := ky) (v := vl) (by omega) (by omega)
                  clear i4 i7
                  go_wp2_with fail
                  generalize wr.alloc (.cells #[.int .i64 kd, .string ky, .string vl] 33) = Wa at *
                  generalize wr.heap.size = ab at *
                  refine (ha.put hT ky vl (by omega)).mono ?_
                  rintro e w8 ⟨rfl, h8, q8⟩
                  clear ha q8 a0 a1 a2 d1 d2 d3 hA
                  generalize (M.put ky (.string vl) (.string ⟨#[]⟩)).2.2 = M' at *
                  generalize (M.put ky (.string vl) (.string ⟨#[]⟩)).2.1 = er at *
                  generalize (M.put ky (.string vl) (.string ⟨#[]⟩)).1 = is at *
                  go_wp2
                  go_meet
                  case rel => exact ⟨rfl, i + 1, M', gs, by simp, by omega, hn2, ht2, h8⟩
              · go_wp2
                go_meet
                case rel => exact ⟨rfl, i, M, gs, rfl, hi, hMi, ht, hc⟩
            case rest =>
              obtain ⟨rfl, i, M, gs, rfl, hi, hMi, ht, hc⟩ := hcut
              have hI := hc.1.1.2.1
              go_wp2_with fail
              refine (hc.next hT).mono ?_
              rintro e w8 ⟨rfl, h8, _⟩
              clear hc
              cases hsk : M.skip (bg.drop pos) with
              | nil =>
                have hall := told_end ht hsk
                have e3 : M.nb (bg.drop pos) = false := by unfold SM.nb; rw [hsk]
                rw [e3]
                clear e3
                generalize M.nk (bg.drop pos) = kx at *
                generalize M.nv (bg.drop pos) = vx at *
                rw [hsk] at h8
                clear hsk
                have hlg := ht.lg
                have hlt := ht.lt
                go_wp2
                go_loopw [160] (fun t wr => ∃ j : Nat, j ≤ N ∧ t = .int .i64 (j : Nat) ∧ wr = w8) (fun t _ => N - (intOf t).toNat)
                case atStart => exact ⟨0, by omega, rfl, rfl⟩
                case round =>
                  obtain ⟨j, hj, rfl, rfl⟩ := hrel
                  by_cases hjl : j < N
                  · have cg := h8.2.2.1.cell (boolsV_at (gs := gs) (j := j) (by omega))
                    have ct := h8.2.2.2.1.cell (intsV_at (ts := ts) (j := j) (by omega))
                    have hj1 : (j : Int) < (N : Int) := by omega
                    rcases hall j (by omega) with h1 | ⟨h1, h2⟩
                    · rw [h1] at ct
                      go_wp2
                      go_roundw
                      case rel => exact ⟨j + 1, by omega, by simp, trivial⟩
                      case measure => simp only [intOf]; omega
                    · rw [h1] at ct
                      rw [h2] at cg
                      go_wp2
                      go_roundw
                      case rel => exact ⟨j + 1, by omega, by simp, trivial⟩
                      case measure => simp only [intOf]; omega
                  · go_wp2_with fail
                    refine (hlives wr h8.bel).mono ?_
                    rintro e w9 ⟨rfl, hb9⟩
                    go_wp2
                    go_ret
                    exact ⟨rfl, h8.bel.trans (hb9.mono h8.bel.size)⟩
              | cons k r =>
                obtain ⟨pp, hp1, hp2, hp3, hp4, hp5, hp6, ht2⟩ := told_next ht hsk
                have e1 : M.nk (bg.drop pos) = k := by unfold SM.nk; rw [hsk]; rfl
                have e2 : M.nv (bg.drop pos) = valK M k := by unfold SM.nv; rw [hsk]
                have e3 : M.nb (bg.drop pos) = true := by unfold SM.nb; rw [hsk]
                rw [e1, e2, e3]
                rw [hsk, List.tail_cons] at h8
                have hkz : k.size < 140737488355328 := hks k (by rw [← hp3]; exact getD_mem hp2)
                have hget := h8.1.1.get hT k hkz
                rw [hp6] at hget
                clear e1 e2 e3 hsk ht hp6
                subst hp4
                generalize valK M k = vx at *
                go_wp2_with fail
                refine hget.mono ?_
                rintro e w9 ⟨rfl, hb9⟩
                have h9 := h8.below hb9
                clear hget h8 hb9
                go_wp2
                go_loopw [140, 23] (fun t inn wr => ∃ j : Nat, j ≤ N ∧ t = .int .i64 (j : Nat) ∧ inn = .bool (decide (pp < j)) ∧ Camp w wr b x q1 q2 (.slice (some ⟨gb, 0, none⟩) N N) M (bg.drop (pp + 1)) bg gs (if pp < j then ts.set pp 1 else ts)) (fun t _ _ => N - (intOf t).toNat)
                case atStart => exact ⟨0, by omega, rfl, by simp, by simpa using h9⟩
                case round =>
                  obtain ⟨j, hj, rfl, rfl, h10⟩ := hrel
                  clear h9
                  by_cases hjl : j < N
                  · obtain ⟨_, _, hpp, _, hjb, ck⟩ := text_at h10.2.1.has (Below.refl _ _) (Nat.le_refl _) hjl
                    cases hpp
                    rw [Nat.zero_add] at ck
                    have hj1 : (j : Int) < (N : Int) := by omega
                    by_cases hjp : j = pp
                    · subst hjp
                      rw [hp3] at ck
                      rw [if_neg (Nat.lt_irrefl j)] at h10
                      have ct := h10.2.2.2.1.cell (intsV_at (ts := ts) (j := j) (by rw [← List.length_set (i := j) (a := 1), ht2.lt]; exact hjb))
                      have ft := h10.2.2.2.1.free j
                      rw [hp5] at ct
                      have hset := h10.setT j 1
                      clear h10
                      go_wp2
                      go_roundw
                      case rel => exact ⟨j + 1, by omega, by simp, by simp, by rw [if_pos (Nat.lt_succ_self j)]; exact hset⟩
                      case measure => simp only [intOf]; omega
                    · have hne : ¬ bg.getD j ByteArray.empty = k := by
                        rw [← hp3]
                        exact nodup_ne hnd hjb hp2 hjp
                      have hdf := str_ne hne
                      have hd1 : decide (pp < j) = decide (pp < j + 1) := by simp only [decide_eq_decide]; omega
                      have h11 : Hid (Camp w wr b x q1 q2 (.slice (some ⟨gb, 0, none⟩) N N) M (bg.drop (pp + 1)) bg gs (if pp < j + 1 then ts.set pp 1 else ts)) := by
                        show Camp _ _ _ _ _ _ _ _ _ _ _ _
                        rw [show (if pp < j + 1 then ts.set pp 1 else ts) = (if pp < j then ts.set pp 1 else ts) by by_cases h : pp < j; rw [if_pos h, if_pos (by omega)]; rw [if_neg h, if_neg (by omega)]]
                        exact h10
                      rw [hd1]
                      clear h10 hne hd1
                      generalize bg.getD j ByteArray.empty = kk at *
                      go_wp2
                      go_roundw
                      case rel => exact ⟨j + 1, by omega, by simp, rfl, h11.out⟩
                      case measure => simp only [intOf]; omega
                  · obtain rfl : j = N := by omega
                    rw [if_pos (by omega)] at h10
                    rw [decide_eq_true (by omega : pp < j)]
                    go_wp2
                    go_roundw
                    case rel => exact ⟨i, m + 1, pp + 1, M, gs, ts.set pp 1, hi, rfl, by simp, by omega, hMi, ht2, h10⟩
                    case measure => simp only [intOf]; omega
end Go.Proofs.YtiobfdfmfgjpfaaDoor
