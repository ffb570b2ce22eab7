import Derived.Test.YthlelcmifolnfaaGreatDoorDs0To
import Derived.Test.YthlelcmifolnfaaGreatDoorDkL0
namespace Go.Proofs.YthlelcmifolnfaaGreatDoor
open Go.RowKit Go.Maps Go.Sort Go.Shelf
theorem less_lt : ∀ x y : List UInt8, Op.bytesLess x y = true → x < y
  | [], [], h => by simp [Op.bytesLess] at h
  | [], _ :: _, _ => List.nil_lt_cons _ _
  | _ :: _, [], h => by simp [Op.bytesLess] at h
  | a :: x, b :: y, h => by
    simp only [Op.bytesLess, Bool.or_eq_true, Bool.and_eq_true, decide_eq_true_eq, beq_iff_eq] at h
    rw [List.cons_lt_cons_iff]
    rcases h with h | ⟨rfl, h⟩
    · exact .inl h
    · exact .inr ⟨rfl, less_lt x y h⟩
def textsV8 (l : List ByteArray) : List Value := l.map Value.string
theorem enc_data (x : ByteArray) : encStr x.data.toList = .string x := by
  unfold encStr
  simp
theorem names_sorted {M : DM} (hI : M.Inv) {ss : List (List UInt8)} (h : ss.Perm (M.names.map fun x => x.data.toList)) : (ss.mergeSort (fun x y => decide (x ≤ y))).map encStr = textsV8 M.names := by
  have e1 : ss.mergeSort (fun x y => decide (x ≤ y)) = (M.names.map fun x => x.data.toList).mergeSort (fun x y => decide (x ≤ y)) := mergeSort_of_perm h
  have e2 : (M.names.map fun x => x.data.toList).mergeSort (fun x y => decide (x ≤ y)) = M.names.map fun x => x.data.toList := by
    refine List.mergeSort_of_pairwise ?_
    rw [List.pairwise_map]
    have hr := hI.rise
    unfold Rises at hr
    have hr' : M.names.Pairwise fun x y => ltT x y = true := by
      show (M.L.map Prod.fst).Pairwise _
      rw [List.pairwise_map]
      exact hr
    refine hr'.imp fun {a b} hab => ?_
    rw [decide_eq_true_eq]
    have := less_lt _ _ hab
    rw [Lib.toList_data, Lib.toList_data] at this
    exact List.le_of_lt this
  rw [e1, e2, List.map_map]
  unfold textsV8
  exact List.map_congr_left fun x _ => enc_data x
def DM.listT (M : DM) : List ByteArray := if M.off = true then [] else M.names
set_option maxRecDepth 10000 in
set_option maxHeartbeats 1000000 in
theorem list_any {w : World} {d : Nat} {S : Nat → Prop} {M : DM} (hD : DiskAt w d S M) (hI : M.Inv) :
    Calls Tryz.prog 38 #[.pointer (some ⟨d, 0, none⟩)] w fun e w' => (∃ v, e = .returned v ∧ w'.ownsRow w.heap.size 9 1 v M.listT.length (textsV8 M.listT)) ∧ Below w.heap.size w w' := by
  have hon := on_any hD
  cases hf : M.off with
  | true =>
    have e : M.listT = [] := by unfold DM.listT; rw [if_pos hf]
    rw [e]
    rw [hf] at hon
    go_enter Tryz.func38, Tryz.ntmps38
    go_wp2_with fail
    refine same_mono hon ?_
    go_wp2
    go_ret
    exact ⟨⟨_, rfl, World.ownsRow_nil _ _ _ _⟩, Below.refl _ _⟩
  | false =>
    have e : M.listT = M.names := by unfold DM.listT; rw [if_neg (by rw [hf]; decide)]
    rw [e]
    rw [hf] at hon
    obtain ⟨φ, σ, mb, vb, kv, h, -, hcnt⟩ := hD.open8 hI
    obtain ⟨c0, -⟩ := h.cells
    obtain ⟨D, hown, hperm, -⟩ := h.map.keys hI.nodup hI.short
    change w.ownsMap Tryz.prog 9 ptrR mb M.names.length D at hown
    change (M.names.map fun x => x.data.toList).Perm (strKeys D) at hperm
    have hsz : Maps.size D ≤ 16777216 := Nat.le_trans hown.size_le hcnt
    have hK := keys_L (some mb) w
    have hL := sorted_L mb M.names.length D ptrR w hown (by unfold maxLen; omega) (by omega)
    clear hown h
    refine (callsIn_wide (n := 6)).1 ?_
    have hfO : Fence.wide.fn 99 := trivial
    have hfK : Fence.wide.fn 101 := trivial
    have hfS : Fence.wide.fn 100 := trivial
    refine callsIn_of_wp Tryz.func38 rfl trivial ?_ rfl
    simp only [Tryz.ntmps38, List.size_toArray, List.length_cons, List.length_nil, Nat.reduceAdd, Nat.reduceSub, Array.replicate_succ, Array.replicate_zero, List.push_toArray, List.append_toArray, List.nil_append, List.cons_append]
    gi_wp2_with (first
      | (gi_at_call 99; refine (callsIn_wide.2 hon).mono ?_; rintro e w' ⟨rfl, rfl⟩)
      | (gi_at_call 101; refine hK.mono ?_; rintro e w' ⟨rfl, rfl⟩)
      | (gi_at_call 100; refine hL.mono ?_; rintro e w' ⟨v, ss, rfl, hS, hrow, hnil, hb⟩))
    go_ret
    have hp : ss.Perm (M.names.map fun x => x.data.toList) := hS.trans hperm.symm
    rw [names_sorted hI hp, hp.length_eq, List.length_map] at hrow
    exact ⟨⟨_, rfl, row_base hrow (by simp)⟩, ((Below.refl _ _).alloc (Nat.le_refl _) _).trans (hb.mono (by simp))⟩
end Go.Proofs.YthlelcmifolnfaaGreatDoor

namespace Go.Proofs.YthlelcmifolnfaaGreatDoor
open Go.RowKit Go.Maps
structure DM.OkN (c : Nat) (M : DM) : Prop where
  inv : M.Inv
  ops : M.ops ≤ c
  n : (M.n : Int) ≤ 9223372036854775807
  keep : -9223372036854775808 ≤ M.keep ∧ M.keep ≤ 9223372036854775807
theorem DM.OkN.ok {c : Nat} {M : DM} (h : M.OkN c) (hc : c < 1099511627776) : M.Ok := ⟨h.inv, Nat.lt_of_le_of_lt h.ops hc, h.n, h.keep⟩
theorem DM.OkN.mono {c c' : Nat} {M : DM} (h : M.OkN c) (hc : c ≤ c') : M.OkN c' := ⟨h.inv, Nat.le_trans h.ops hc, h.n, h.keep⟩
def DM.Rest (M N : DM) : Prop := N.ops = M.ops ∧ N.n = M.n ∧ N.keep = M.keep
theorem begun_rest (M : DM) : M.begun.ops = M.ops + 1 ∧ M.begun.n ≤ M.n ∧ M.begun.keep = M.keep := by
  unfold DM.begun
  split
  · exact ⟨rfl, Nat.zero_le _, rfl⟩
  · exact ⟨rfl, Nat.sub_le _ _, rfl⟩
theorem act_okN {c : Nat} {M : DM} {f : DM → Nat × DM} (h : M.OkN c) (hf : ∀ N : DM, N.Rest (f N).2) (hi : (M.act f).2.Inv) : (M.act f).2.OkN (c + 1) := by
  obtain ⟨h1, h2, h3⟩ := begun_rest M
  have h4 := h.ops
  have h5 := h.n
  refine ⟨hi, ?_, ?_, ?_⟩ <;> (unfold DM.act; split)
  · rw [(hf _).1]; omega
  · show M.begun.ops ≤ _; omega
  · rw [(hf _).2.1]; omega
  · show (M.begun.n : Int) ≤ _; omega
  · rw [(hf _).2.2, h3]; exact h.keep
  · show _ ≤ M.begun.keep ∧ M.begun.keep ≤ _; rw [h3]; exact h.keep
namespace DM
variable {c : Nat} {M : DM}
theorem OkN.create (h : M.OkN c) (x : ByteArray) : (M.create x).2.OkN (c + 1) := by
  have hi := h.inv.create x
  unfold DM.create at hi ⊢
  split
  · exact h.mono (Nat.le_succ _)
  · rename_i h1
    rw [if_neg h1] at hi
    split
    · exact h.mono (Nat.le_succ _)
    · rename_i h2
      rw [if_neg h2] at hi
      refine act_okN h (fun N => ?_) hi
      unfold DM.create1
      split
      · exact ⟨rfl, rfl, rfl⟩
      · split <;> exact ⟨rfl, rfl, rfl⟩
theorem OkN.append (h : M.OkN c) (x : ByteArray) {b : List Int} (hb : isB8 b) : (M.append x b).2.OkN (c + 1) := by
  have hi := h.inv.append x hb
  unfold DM.append at hi ⊢
  split
  · exact h.mono (Nat.le_succ _)
  · rename_i h1
    rw [if_neg h1] at hi
    split
    · exact h.mono (Nat.le_succ _)
    · rename_i h2
      rw [if_neg h2] at hi
      refine act_okN h (fun N => ?_) hi
      unfold DM.append1
      split <;> exact ⟨rfl, rfl, rfl⟩
theorem OkN.syncs (h : M.OkN c) : M.syncs.2.OkN (c + 1) := by
  have hi := h.inv.syncs
  unfold DM.syncs at hi ⊢
  split
  · exact h.mono (Nat.le_succ _)
  · rename_i h1
    rw [if_neg h1] at hi
    exact act_okN h (fun N => ⟨rfl, rfl, rfl⟩) hi
theorem OkN.remove (h : M.OkN c) (x : ByteArray) : (M.remove x).2.OkN (c + 1) := by
  have hi := h.inv.remove x
  unfold DM.remove at hi ⊢
  split
  · exact h.mono (Nat.le_succ _)
  · rename_i h1
    rw [if_neg h1] at hi
    split
    · exact h.mono (Nat.le_succ _)
    · rename_i h2
      rw [if_neg h2] at hi
      exact act_okN h (fun N => ⟨rfl, rfl, rfl⟩) hi
theorem OkN.rename (h : M.OkN c) (a b : ByteArray) : (M.rename a b).2.OkN (c + 1) := by
  have hi := h.inv.rename a b
  unfold DM.rename at hi ⊢
  split
  · exact h.mono (Nat.le_succ _)
  · rename_i h1
    rw [if_neg h1] at hi
    split
    · exact h.mono (Nat.le_succ _)
    · rename_i h2
      rw [if_neg h2] at hi
      split
      · exact h.mono (Nat.le_succ _)
      · rename_i h3
        rw [if_neg h3] at hi
        refine act_okN h (fun N => ?_) hi
        show N.Rest (N.rename1 a b)
        unfold DM.rename1
        split <;> exact ⟨rfl, rfl, rfl⟩
theorem OkN.crash (h : M.OkN c) (k : Int) : (M.crash k).OkN c := ⟨h.inv.crash k, h.ops, h.n, h.keep⟩
theorem OkN.start (h : M.OkN c) : M.start.OkN c := ⟨h.inv.start, h.ops, by show ((0 : Nat) : Int) ≤ _; omega, h.keep⟩
theorem OkN.arm (h : M.OkN c) (n k : Int) (hn : n ≤ 9223372036854775807) (hk : -9223372036854775808 ≤ k ∧ k ≤ 9223372036854775807) : (M.arm n k).2.OkN c := by
  have hi := h.inv.arm n k
  unfold DM.arm at hi ⊢
  split
  · exact h
  · rename_i h1
    rw [if_neg h1] at hi
    exact ⟨hi, h.ops, by show ((n.toNat : Nat) : Int) ≤ _; omega, hk⟩
end DM

structure Disk8 (w0 w : World) (d : Nat) (S : Nat → Prop) (M : DM) : Prop where
  at8 : DiskAt w d S M
  own : ∀ k, S k → w0.heap.size ≤ k ∧ k < w.heap.size
  bel : Below w0.heap.size w0 w
section
variable {w0 w w' : World} {d : Nat} {S : Nat → Prop} {M M' : DM} {c : Nat}
theorem Disk8.below (h : Disk8 w0 w d S M) (hb : Below w.heap.size w w') : Disk8 w0 w' d S M :=
  ⟨h.at8.below hb, fun k hk => ⟨(h.own k hk).1, Nat.lt_of_lt_of_le (h.own k hk).2 hb.size⟩, h.bel.trans (hb.mono h.bel.size)⟩
theorem Disk8.turn (h : Disk8 w0 w d S M) {G : Nat → Prop} (ht : Turn G w w') (hG : ∀ k, S k → ¬ G k) (hw : ∀ k, G k → w0.heap.size ≤ k) : Disk8 w0 w' d S M :=
  ⟨h.at8.same fun k hk hs => ht.block k hk (hG k hs), fun k hk => ⟨(h.own k hk).1, Nat.lt_of_lt_of_le (h.own k hk).2 ht.size⟩, h.bel.trans (ht.below hw h.bel.size)⟩
def wide8 (S : Nat → Prop) (w : World) : Nat → Prop := fun k => S k ∨ w.heap.size ≤ k
theorem Disk8.wide (h : Disk8 w0 w d S M) : DiskAt w d (wide8 S w) M := h.at8.mono fun _ _ hk => .inl hk
theorem Disk8.ext {P : Program} {f : FuncId} {args : Array Value} {A : Ending → Prop} (h : Disk8 w0 w d S M) (hc : Calls P f args w fun e w' => A e ∧ DiskAt w' d (wide8 S w) M' ∧ Turn (wide8 S w) w w') :
    Calls P f args w fun e w' => A e ∧ Disk8 w0 w' d (more8 S w w') M' ∧ Turn S w w' := by
  refine hc.mono ?_
  rintro e w' ⟨h1, h2, h3⟩
  have hs := h.bel.size
  have ht : Turn S w w' := h3.mono fun k hk => hk
  refine ⟨h1, ⟨h2.mono fun k hk hs => hs.imp id fun h => ⟨h, hk⟩, fun k hk => ?_, h.bel.trans (ht.below (fun k hk => (h.own k hk).1) hs)⟩, ht⟩
  rcases hk with hk | ⟨h4, h5⟩
  · exact ⟨(h.own k hk).1, Nat.lt_of_lt_of_le (h.own k hk).2 ht.size⟩
  · exact ⟨by omega, h5⟩
theorem Disk8.hS (S : Nat → Prop) (w : World) : ∀ k, w.heap.size ≤ k → wide8 S w k := fun _ h => .inr h
theorem Disk8.create (h : Disk8 w0 w d S M) (hO : M.OkN c) (hc : c < 1099511627776) {x : ByteArray} (hs : x.size ≤ maxLen) :
    Calls Tryz.prog 29 #[.pointer (some ⟨d, 0, none⟩), .string x] w fun e w' => e = .returned (.int .i64 ((M.create x).1 : Nat)) ∧ Disk8 w0 w' d (more8 S w w') (M.create x).2 ∧ Turn S w w' :=
  h.ext (create_any h.wide (hO.ok hc) (Disk8.hS S w) hs)
theorem Disk8.append (h : Disk8 w0 w d S M) (hO : M.OkN c) (hc : c < 1099511627776) {x : ByteArray} (hs : x.size ≤ maxLen) {v : Value} {bs : List Int} (hb : HasX w S v bs) (hbl : bs.length ≤ 1099511627776) :
    Calls Tryz.prog 31 #[.pointer (some ⟨d, 0, none⟩), .string x, v] w fun e w' => e = .returned (.int .i64 ((M.append x bs).1 : Nat)) ∧ Disk8 w0 w' d (more8 S w w') (M.append x bs).2 ∧ Turn S w w' :=
  h.ext (append_any h.wide (hO.ok hc) (Disk8.hS S w) hs (hb.mono fun k hk hs => hs.elim id fun h => absurd hk (by omega)) hbl)
theorem Disk8.sync (h : Disk8 w0 w d S M) (hO : M.OkN c) (hc : c < 1099511627776) :
    Calls Tryz.prog 69 #[.pointer (some ⟨d, 0, none⟩)] w fun e w' => e = .returned (.int .i64 (M.syncs.1 : Nat)) ∧ Disk8 w0 w' d (more8 S w w') M.syncs.2 ∧ Turn S w w' :=
  h.ext (sync_any h.wide (hO.ok hc) (Disk8.hS S w))
theorem Disk8.rename (h : Disk8 w0 w d S M) (hO : M.OkN c) (hc : c < 1099511627776) {a b : ByteArray} (hsa : a.size ≤ maxLen) (hsb : b.size ≤ maxLen) :
    Calls Tryz.prog 71 #[.pointer (some ⟨d, 0, none⟩), .string a, .string b] w fun e w' => e = .returned (.int .i64 ((M.rename a b).1 : Nat)) ∧ Disk8 w0 w' d (more8 S w w') (M.rename a b).2 ∧ Turn S w w' :=
  h.ext (rename_any h.wide (hO.ok hc) (Disk8.hS S w) hsa hsb)
theorem Disk8.remove (h : Disk8 w0 w d S M) (hO : M.OkN c) (hc : c < 1099511627776) {x : ByteArray} (hs : x.size ≤ maxLen) :
    Calls Tryz.prog 33 #[.pointer (some ⟨d, 0, none⟩), .string x] w fun e w' => e = .returned (.int .i64 ((M.remove x).1 : Nat)) ∧ Disk8 w0 w' d (more8 S w w') (M.remove x).2 ∧ Turn S w w' :=
  h.ext (remove_any h.wide (hO.ok hc) (Disk8.hS S w) hs)
theorem Disk8.crash (h : Disk8 w0 w d S M) (hO : M.OkN c) (hc : c < 1099511627776) (k : Int) (hk : -9223372036854775808 ≤ k ∧ k ≤ 9223372036854775807) :
    Calls Tryz.prog 23 #[.pointer (some ⟨d, 0, none⟩), .int .i64 k] w fun e w' => (∃ v, e = .returned v) ∧ Disk8 w0 w' d (more8 S w w') (M.crash k) ∧ Turn S w w' :=
  h.ext (crash_at h.wide (hO.ok hc) (Disk8.hS S w) k hk)
theorem Disk8.start (h : Disk8 w0 w d S M) : Calls Tryz.prog 25 #[.pointer (some ⟨d, 0, none⟩)] w fun e w' => (∃ v, e = .returned v) ∧ Disk8 w0 w' d (more8 S w w') M.start ∧ Turn S w w' := h.ext (start_any h.wide)
theorem Disk8.arm (h : Disk8 w0 w d S M) (n k : Int) (hn : -9223372036854775808 ≤ n ∧ n ≤ 9223372036854775807) :
    Calls Tryz.prog 21 #[.pointer (some ⟨d, 0, none⟩), .int .i64 n, .int .i64 k] w fun e w' => e = .returned (.int .i64 ((M.arm n k).1 : Nat)) ∧ Disk8 w0 w' d (more8 S w w') (M.arm n k).2 ∧ Turn S w w' := h.ext (arm_any h.wide n k hn)
theorem Disk8.spoil (h : Disk8 w0 w d S M) (hI : M.Inv) {x : ByteArray} (hs : x.size ≤ maxLen) (i b : Int) (hi : -9223372036854775808 ≤ i ∧ i ≤ 9223372036854775807) (hb : -9223372036854775808 ≤ b ∧ b ≤ 9223372036854775807) :
    Calls Tryz.prog 27 #[.pointer (some ⟨d, 0, none⟩), .string x, .int .i64 i, .int .i64 b] w fun e w' => e = .returned (.int .i64 ((M.spoil x i b).1 : Nat)) ∧ Disk8 w0 w' d (more8 S w w') (M.spoil x i b).2 ∧ Turn S w w' := h.ext (spoil_any h.wide hI hs i b hi hb)
theorem Disk8.new (b : Nat) (w0 w : World) (hb : b ≤ 16777216) (h0 : Below w0.heap.size w0 w) : Calls Tryz.prog 17 #[.int .i64 (b : Nat)] w fun e w' => e = .returned (.pointer (some ⟨w.heap.size + 1, 0, none⟩)) ∧ Disk8 w0 w' (w.heap.size + 1) (fun k => w.heap.size ≤ k ∧ k < w'.heap.size) (DM.empty b) ∧ Below w.heap.size w w' := by
  refine (new_good b w hb).mono ?_
  rintro e w' ⟨h1, h2, h3⟩
  exact ⟨h1, ⟨h2, fun k hk => ⟨Nat.le_trans h0.size hk.1, hk.2⟩, h0.trans (h3.mono h0.size)⟩, h3⟩
end
theorem okN_empty (b : Nat) (hb : b ≤ 16777216) : (DM.empty b).OkN 0 := ⟨DM.inv_empty8 b hb, Nat.le_refl _, by show ((0 : Nat) : Int) ≤ _; omega, by show _ ≤ (0 : Int) ∧ (0 : Int) ≤ _; omega⟩
end Go.Proofs.YthlelcmifolnfaaGreatDoor
