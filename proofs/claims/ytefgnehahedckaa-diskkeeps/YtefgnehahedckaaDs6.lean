/-
  A disk on which nothing is armed: what a call leaves of its room.
-/
import Derived.Test.YtefgnehahedckaaDs5
namespace Go.Proofs.Ytefgnehahedckaa
open Go.RowKit Go.Maps

/-- Nothing is armed, the power is on, and so many operations were done at most. -/
structure Calm8 (nb c : Nat) (M : DM) : Prop where
  ok : M.OkN c
  off : M.off = false
  n : M.n = 0
  blocks : M.blocks = nb
def DM.Like (M N : DM) : Prop := N.off = M.off ∧ N.n = M.n ∧ N.blocks = M.blocks
section
variable {nb c : Nat} {M : DM}
theorem Calm8.act (h : Calm8 nb c M) (f : DM → Nat × DM) : M.act f = f M.begun ∧ M.begun = { M with ops := M.ops + 1 } := by
  have hb : M.begins = true := decide_eq_true (by rw [h.n]; decide)
  unfold DM.act
  rw [hb, if_pos rfl]
  refine ⟨rfl, ?_⟩
  unfold DM.begun
  have hn := h.n
  rw [if_neg (by rw [hn]; decide), hn]
theorem Calm8.of_act (h : Calm8 nb c M) {f : DM → Nat × DM} (hf : ∀ N : DM, N.Like (f N).2) (hO : (M.act f).2.OkN (c + 1)) : Calm8 nb (c + 1) (M.act f).2 := by
  obtain ⟨h1, h2, h3⟩ := hf M.begun
  rw [(h.act f).1] at hO ⊢
  refine ⟨hO, ?_, ?_, ?_⟩
  · rw [h1, (h.act f).2]; exact h.off
  · rw [h2, (h.act f).2]; exact h.n
  · rw [h3, (h.act f).2]; exact h.blocks
theorem Calm8.mono (h : Calm8 nb c M) : Calm8 nb (c + 1) M := ⟨h.ok.mono (Nat.le_succ _), h.off, h.n, h.blocks⟩
/-- What is refused changes nothing. -/
def Room8 (M : DM) (r : Nat × DM) : Prop := r.1 ≠ 0 → r.2.used = M.used ∧ tot r.2.buf = tot M.buf
theorem Room8.same (M : DM) (e : Nat) : Room8 M (e, M) := fun _ => ⟨rfl, rfl⟩
theorem Calm8.create (h : Calm8 nb c M) (x : ByteArray) : Calm8 nb (c + 1) (M.create x).2 ∧ Room8 M (M.create x) := by
  have hO := h.ok.create x
  unfold DM.create at hO ⊢
  rw [if_neg (by rw [h.off]; decide)] at hO ⊢
  split
  · exact ⟨h.mono, Room8.same _ _⟩
  · rename_i h1
    rw [if_neg h1] at hO
    refine ⟨h.of_act (fun N => ?_) hO, ?_⟩
    · unfold DM.create1
      split
      · exact ⟨rfl, rfl, rfl⟩
      · split <;> exact ⟨rfl, rfl, rfl⟩
    · rw [(h.act _).1, (h.act fun M => (0, M)).2]
      show Room8 M (DM.create1 _ x)
      unfold DM.create1
      split
      · exact fun h => absurd rfl h
      · split
        · exact fun _ => ⟨rfl, rfl⟩
        · exact fun h => absurd rfl h
theorem Calm8.append (h : Calm8 nb c M) (x : ByteArray) {b : List Int} (hb : isB8 b) : Calm8 nb (c + 1) (M.append x b).2 ∧ Room8 M (M.append x b) := by
  have hO := h.ok.append x hb
  unfold DM.append at hO ⊢
  rw [if_neg (by rw [h.off]; decide)] at hO ⊢
  split
  · exact ⟨h.mono, Room8.same _ _⟩
  · rename_i h1
    rw [if_neg h1] at hO
    refine ⟨h.of_act (fun N => ?_) hO, ?_⟩
    · unfold DM.append1
      split <;> exact ⟨rfl, rfl, rfl⟩
    · rw [(h.act _).1, (h.act fun M => (0, M)).2]
      show Room8 M (DM.append1 _ x b)
      unfold DM.append1
      split
      · exact fun _ => ⟨rfl, rfl⟩
      · exact fun h => absurd rfl h
theorem Calm8.syncs (h : Calm8 nb c M) : Calm8 nb (c + 1) M.syncs.2 ∧ Room8 M M.syncs ∧ M.syncs = (0, { M.sync with ops := M.ops + 1 }) := by
  have hO := h.ok.syncs
  have e : M.syncs = (0, { M.sync with ops := M.ops + 1 }) := by
    unfold DM.syncs
    rw [if_neg (by rw [h.off]; decide), (h.act _).1, (h.act fun M => (0, M)).2]
    rfl
  rw [e] at hO ⊢
  exact ⟨⟨hO, h.off, h.n, h.blocks⟩, fun h => absurd rfl h, rfl⟩
theorem Calm8.rename (h : Calm8 nb c M) (a b : ByteArray) : Calm8 nb (c + 1) (M.rename a b).2 ∧ Room8 M (M.rename a b) := by
  have hO := h.ok.rename a b
  unfold DM.rename at hO ⊢
  rw [if_neg (by rw [h.off]; decide)] at hO ⊢
  split
  · exact ⟨h.mono, Room8.same _ _⟩
  · rename_i h1
    rw [if_neg h1] at hO
    split
    · exact ⟨h.mono, Room8.same _ _⟩
    · rename_i h2
      rw [if_neg h2] at hO
      refine ⟨h.of_act (fun N => ?_) hO, ?_⟩
      · show N.Like (N.rename1 a b)
        unfold DM.rename1
        split <;> exact ⟨rfl, rfl, rfl⟩
      · rw [(h.act _).1]
        exact fun h => absurd rfl h
theorem Calm8.remove (h : Calm8 nb c M) (x : ByteArray) : Calm8 nb (c + 1) (M.remove x).2 ∧ Room8 M (M.remove x) ∧ ((M.remove x).1 = 0 → (M.remove x).2.used < M.used) ∧ (x ∈ M.names → (M.remove x).1 = 0 ∧ (M.remove x).2.names = M.names.filter fun y => decide (y ≠ x)) := by
  have hO := h.ok.remove x
  unfold DM.remove at hO ⊢
  rw [if_neg (by rw [h.off]; decide)] at hO ⊢
  split
  · rename_i h1
    exact ⟨h.mono, Room8.same _ _, (fun h => by cases h), fun h2 => absurd h2 h1⟩
  · rename_i h1
    rw [if_neg h1] at hO
    refine ⟨h.of_act (fun N => ⟨rfl, rfl, rfl⟩) hO, ?_⟩
    rw [(h.act _).1, (h.act fun M => (0, M)).2]
    refine ⟨fun h => absurd rfl h, fun _ => ?_, fun _ => ⟨rfl, ?_⟩⟩
    · have := DM.used_gone h.ok.inv (x := x) (Decidable.not_not.1 h1)
      have h2 := need_pos (M.bytes x).length
      show (M.gone x).used < M.used
      omega
    · show List.map Prod.fst (M.L.filter _) = List.filter _ (List.map Prod.fst M.L)
      rw [List.filter_map]
      rfl
theorem Calm8.used (h : Calm8 nb c M) : M.usedT = M.used ∧ M.pendT = tot M.buf ∧ M.used ≤ nb ∧ M.listT = M.names := by
  unfold DM.usedT DM.pendT DM.listT
  rw [if_neg (by rw [h.off]; decide), if_neg (by rw [h.off]; decide), if_neg (by rw [h.off]; decide), ← h.blocks]
  exact ⟨rfl, rfl, h.ok.inv.fits, rfl⟩
theorem Calm8.none (h : Calm8 nb c M) (hn : M.names = []) : M.usedT = 0 ∧ M.pendT = 0 := by
  have hL : M.L = [] := by
    have : M.L.map Prod.fst = [] := hn
    simpa using this
  have hb : M.buf = [] := by
    rcases hbb : M.buf with _ | ⟨w, r⟩
    · rfl
    · have := h.ok.inv.mem w (by rw [hbb]; exact List.mem_cons_self)
      rw [hn] at this
      cases this
  rw [h.used.1, h.used.2.1]
  unfold DM.used
  rw [hL, hb]
  exact ⟨rfl, rfl⟩
end
theorem short9 (x : ByteArray) (h : x.size ≤ 15000) : x.size ≤ maxLen := by unfold maxLen; omega
theorem filter_first {x : ByteArray} {l : List ByteArray} (h : (x :: l).Nodup) : (x :: l).filter (fun y => decide (y ≠ x)) = l := by
  rw [List.filter_cons_of_neg (by simp)]
  refine List.filter_eq_self.2 fun y hy => decide_eq_true fun e => ?_
  exact (List.nodup_cons.1 h).1 (e ▸ hy)
/-- What an act leaves, in the words of a law that looks at the room. -/
def RoomEnd (w0 : World) (d nb c u p : Nat) (e : Ending) (w : World) : Prop :=
  ∃ r : Nat, e = .returned (.int .i64 (r : Nat)) ∧ ∃ (M : DM) (S : Nat → Prop), Disk8 w0 w d S M ∧ Calm8 nb c M ∧ (r = 0 ∨ (r ≠ 0 ∧ M.usedT = u ∧ M.pendT = p))
theorem RoomEnd.of {nb c : Nat} {M : DM} (h : Calm8 nb c M) {r : Nat × DM} (hr : Calm8 nb (c + 1) r.2 ∧ Room8 M r) {w0 w w' : World} {d : Nat} {S : Nat → Prop} {e : Ending} (he : e = .returned (.int .i64 (r.1 : Nat)) ∧ Disk8 w0 w' d (more8 S w w') r.2 ∧ Turn S w w') : RoomEnd w0 d nb (c + 1) M.usedT M.pendT e w' := by
  refine ⟨r.1, he.1, r.2, _, he.2.1, hr.1, ?_⟩
  by_cases h0 : r.1 = 0
  · exact .inl h0
  · obtain ⟨h1, h2⟩ := hr.2 h0
    refine .inr ⟨h0, ?_, ?_⟩
    · rw [hr.1.used.1, h1, h.used.1]
    · rw [hr.1.used.2.1, h2, h.used.2.1]
end Go.Proofs.Ytefgnehahedckaa
