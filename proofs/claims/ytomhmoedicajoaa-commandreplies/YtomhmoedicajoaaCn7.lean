/-
  A reader beside the box of a reply: what each call of the reader and each store leaves.
-/
import Derived.Test.YtomhmoedicajoaaCn4
import Derived.Test.YtomhmoedicajoaaCn6
namespace Go.Proofs.Ytomhmoedicajoaa
open Go.RowKit

/-- The reader lies in block n + 1, the reply in n + 2, the result in n; the bytes below n. -/
structure RdR (w0 w : World) (S : List Int × Bool) (c : Rep9) (u : Value) : Prop where
  rd : ∃ v, Rd w (w0.heap.size + 1) w0.heap.size v S.1 S.2
  box : RepAt w (w0.heap.size + 1 + 1) c u
  res : RepAt w w0.heap.size zeroR9 (.slice none 0 0)
  bel : Below w0.heap.size w0 w
  inv : Inv S.1 S.2
  isb : IsB S.1
  len : S.1.length ≤ 1073741824

theorem RdR.grow {w0 w w' : World} {S S' : List Int × Bool} {c : Rep9} {u : Value} (h : RdR w0 w S c u) (hr : ∃ v, Rd w' (w0.heap.size + 1) w0.heap.size v S'.1 S'.2) (hg : w.grownBy w' (some (w0.heap.size + 1))) (hi : Inv S'.1 S'.2) (hB : IsB S'.1) (hl : S'.1.length ≤ S.1.length) : RdR w0 w' S' c u :=
  ⟨hr, (hg.block _ h.box.lt (by intro e; have := Option.some.inj e; omega)).trans h.box, (hg.block _ h.res.lt (by intro e; have := Option.some.inj e; omega)).trans h.res,
    ⟨hg.os.trans h.bel.os, hg.tape.trans h.bel.tape, hg.output.trans h.bel.output, Nat.le_trans h.bel.size hg.size, fun k hk => (hg.block k (Nat.lt_of_lt_of_le hk h.bel.size) (by simp; omega)).trans (h.bel.block k hk)⟩, hi, hB, Nat.le_trans hl h.len⟩

theorem RdR.int {w0 w : World} {S : List Int × Bool} {c : Rep9} {u : Value} (h : RdR w0 w S c u) :
    Calls Try.prog 38 #[.pointer (some ⟨w0.heap.size + 1, 0, none⟩)] w fun e w' => e = .returned (.int .i64 (int9 S).1) ∧ RdR w0 w' (int9 S).2 c u := by
  obtain ⟨v, hv⟩ := h.rd
  refine (int_any w _ _ v _ _ hv h.isb (Nat.le_trans h.len (by decide))).mono ?_
  rw [h.inv.src]
  rintro e w' ⟨rfl, hr, hg⟩
  exact ⟨rfl, h.grow hr hg (h.inv.lose _) (loseS_isB h.isb _ _) (loseS_length _ _ _)⟩
theorem RdR.text {w0 w : World} {S : List Int × Bool} {c : Rep9} {u : Value} (h : RdR w0 w S c u) :
    Calls Try.prog 39 #[.pointer (some ⟨w0.heap.size + 1, 0, none⟩)] w fun e w' => e = .returned (.string (txt9 S).1) ∧ RdR w0 w' (txt9 S).2 c u := by
  obtain ⟨v, hv⟩ := h.rd
  refine (text_any w _ _ v _ _ hv h.isb (Nat.le_trans h.len (by decide))).mono ?_
  rw [h.inv.src]
  rintro e w' ⟨rfl, hr, hg⟩
  exact ⟨rfl, h.grow hr hg (h.inv.lose _) (loseS_isB h.isb _ _) (loseS_length _ _ _)⟩
theorem RdR.rint {w0 w : World} {S : List Int × Bool} {c : Rep9} {u : Value} (h : RdR w0 w S c u) :
    Calls Try.prog 41 #[.pointer (some ⟨w0.heap.size + 1, 0, none⟩)] w fun e w' => e = .returned (.int .i64 (int9 S).1) ∧ RdR w0 w' (int9 S).2 c u := by
  obtain ⟨v, hv⟩ := h.rd
  refine (rint_any w _ _ v _ _ hv h.inv h.isb (Nat.le_trans h.len (by decide))).mono ?_
  rintro e w' ⟨rfl, hr, hg⟩
  exact ⟨rfl, h.grow hr hg (h.inv.lose _) (loseS_isB h.isb _ _) (loseS_length _ _ _)⟩
theorem RdR.rtext {w0 w : World} {S : List Int × Bool} {c : Rep9} {u : Value} (h : RdR w0 w S c u) :
    Calls Try.prog 42 #[.pointer (some ⟨w0.heap.size + 1, 0, none⟩)] w fun e w' => e = .returned (.string (txt9 S).1) ∧ RdR w0 w' (txt9 S).2 c u := by
  obtain ⟨v, hv⟩ := h.rd
  refine (rtext_any w _ _ v _ _ hv h.inv h.isb (Nat.le_trans h.len (by decide))).mono ?_
  rintro e w' ⟨rfl, hr, hg⟩
  exact ⟨rfl, h.grow hr hg (h.inv.lose _) (loseS_isB h.isb _ _) (loseS_length _ _ _)⟩
theorem RdR.fin {w0 w : World} {S : List Int × Bool} {c : Rep9} {u : Value} (h : RdR w0 w S c u) :
    Calls Try.prog 40 #[.pointer (some ⟨w0.heap.size + 1, 0, none⟩)] w fun e w' => e = .returned (.bool (S.1.isEmpty && !S.2)) ∧ w' = w := by
  obtain ⟨v, hv⟩ := h.rd
  exact end_any w _ _ v _ _ hv
theorem RdR.rfin {w0 w : World} {S : List Int × Bool} {c : Rep9} {u : Value} (h : RdR w0 w S c u) :
    Calls Try.prog 43 #[.pointer (some ⟨w0.heap.size + 1, 0, none⟩)] w fun e w' => e = .returned (.bool (S.1.isEmpty && !S.2)) ∧ w' = w := by
  obtain ⟨v, hv⟩ := h.rd
  exact rend_any w _ _ v _ _ hv

theorem RdR.below {w0 w w' : World} {S : List Int × Bool} {c : Rep9} {u : Value} (h : RdR w0 w S c u) (hb : Below w.heap.size w w') : RdR w0 w' S c u := by
  obtain ⟨v, hv⟩ := h.rd
  exact ⟨⟨v, hv.below hb hv.lt⟩, h.box.below hb, h.res.below hb, h.bel.trans (hb.mono h.bel.size), h.inv, h.isb, h.len⟩
/-- A store into the command's box. -/
theorem RdR.put {w0 w : World} {S : List Int × Bool} {c c' : Rep9} {u u' : Value} (h : RdR w0 w S c u) (i : Nat) (v : Value) (hi : i < 5) (hc : c'.arr u' = (c.arr u).set i v (by show i < 5; exact hi)) : RdR w0 (w.setCell ⟨w0.heap.size + 1 + 1, i, none⟩ v) S c' u' := by
  have hg := grown_set w (w0.heap.size + 1 + 1) i v
  obtain ⟨x, hx⟩ := h.rd
  refine ⟨⟨x, hx.grown hg (by omega) (by omega)⟩, ?_, (hg.block _ h.res.lt (by intro e; have := Option.some.inj e; omega)).trans h.res,
    ⟨hg.os.trans h.bel.os, hg.tape.trans h.bel.tape, hg.output.trans h.bel.output, Nat.le_trans h.bel.size hg.size, fun k hk => (hg.block k (Nat.lt_of_lt_of_le hk h.bel.size) (by simp; omega)).trans (h.bel.block k hk)⟩, h.inv, h.isb, h.len⟩
  unfold RepAt
  rw [hc]
  exact set_block9 h.box i v _
theorem RdR.cells {w0 w : World} {S : List Int × Bool} {c : Rep9} {u : Value} (h : RdR w0 w S c u) : (∀ j, w.frozen? ⟨w0.heap.size + 1 + 1, j, none⟩ = false) ∧ (∀ j, w.frozen? ⟨w0.heap.size, j, none⟩ = false) := ⟨fun j => frozen9 h.box j, fun j => frozen9 h.res j⟩
theorem RdR.new {w : World} {v : Value} {xs : List Int} {t : TypeId} (hv : Has w v xs) (hB : IsB xs) (hl : xs.length ≤ 1073741824) :
    RdR w (((w.alloc (.cells (zeroR9.arr (.slice none 0 0)) 39)).alloc (.cells #[v, .bool false] t)).alloc (.cells (zeroR9.arr (.slice none 0 0)) 39)) (xs, false) zeroR9 (.slice none 0 0) := by
  have hb1 : Below w.heap.size w (w.alloc (.cells (zeroR9.arr (.slice none 0 0)) 39)) := (Below.refl _ _).alloc (Nat.le_refl _) _
  have h1 := RepAt.new w zeroR9 (.slice none 0 0)
  have z1 : (w.alloc (.cells (zeroR9.arr (.slice none 0 0)) 39)).heap.size = w.heap.size + 1 := by simp
  generalize w.alloc (.cells (zeroR9.arr (.slice none 0 0)) 39) = w1 at *
  have hbox := heap_alloc_new w1 (.cells #[v, .bool false] t)
  have hb2 : Below w1.heap.size w1 (w1.alloc (.cells #[v, .bool false] t)) := (Below.refl _ _).alloc (Nat.le_refl _) _
  have z2 : (w1.alloc (.cells #[v, .bool false] t)).heap.size = w1.heap.size + 1 := by simp
  have c0 : (w1.alloc (.cells #[v, .bool false] t)).cell? ⟨w1.heap.size, 0, none⟩ = some v := by unfold World.cell?; dsimp only; rw [hbox]; rfl
  have c1 : (w1.alloc (.cells #[v, .bool false] t)).cell? ⟨w1.heap.size, 1, none⟩ = some (.bool false) := by unfold World.cell?; dsimp only; rw [hbox]; rfl
  have f0 := frozen9 hbox
  generalize w1.alloc (.cells #[v, .bool false] t) = w2 at *
  have hR : Rd w2 w1.heap.size w.heap.size v xs false := ⟨by omega, by omega, c0, c1, f0 0, f0 1, (hv.inn.below hb1 (Nat.le_refl _)).below hb2 (by omega)⟩
  have hb3 : Below w2.heap.size w2 (w2.alloc (.cells (zeroR9.arr (.slice none 0 0)) 39)) := (Below.refl _ _).alloc (Nat.le_refl _) _
  have h3 := RepAt.new w2 zeroR9 (.slice none 0 0)
  rw [z1] at hR
  rw [z2, z1] at h3
  refine ⟨⟨v, hR.below hb3 (by omega)⟩, h3, (h1.below hb2).below hb3, (hb1.trans (hb2.mono (by omega))).trans (hb3.mono (by omega)), (fun h => by cases h), hB, hl⟩
theorem RdR.bool {w0 w : World} {S : List Int × Bool} {c : Rep9} {u : Value} (h : RdR w0 w S c u) :
    Calls Try.prog 44 #[.pointer (some ⟨w0.heap.size + 1, 0, none⟩)] w fun e w' => e = .returned (.bool (bool9 S).1) ∧ RdR w0 w' (bool9 S).2 c u := by
  obtain ⟨v, hv⟩ := h.rd
  refine (bool_any w _ _ v _ _ hv h.isb (Nat.le_trans h.len (by decide))).mono ?_
  rw [h.inv.src]
  rintro e w' ⟨rfl, hr, hg⟩
  exact ⟨rfl, h.grow hr hg (h.inv.lose _) (loseS_isB h.isb _ _) (loseS_length _ _ _)⟩
theorem RdR.rbool {w0 w : World} {S : List Int × Bool} {c : Rep9} {u : Value} (h : RdR w0 w S c u) :
    Calls Try.prog 46 #[.pointer (some ⟨w0.heap.size + 1, 0, none⟩)] w fun e w' => e = .returned (.bool (bool9 S).1) ∧ RdR w0 w' (bool9 S).2 c u := by
  obtain ⟨v, hv⟩ := h.rd
  refine (rbool_any w _ _ v _ _ hv h.inv h.isb (Nat.le_trans h.len (by decide))).mono ?_
  rintro e w' ⟨rfl, hr, hg⟩
  exact ⟨rfl, h.grow hr hg (h.inv.lose _) (loseS_isB h.isb _ _) (loseS_length _ _ _)⟩
theorem RdR.rnum {w0 w : World} {S : List Int × Bool} {c : Rep9} {u : Value} (h : RdR w0 w S c u) :
    Calls Try.prog 47 #[.pointer (some ⟨w0.heap.size + 1, 0, none⟩)] w fun e w' => e = .returned (.int .u64 (getS S.1).1) ∧ RdR w0 w' (loseS S.1 S.2 (getS S.1).2) c u := by
  obtain ⟨v, hv⟩ := h.rd
  refine (rnum_any w _ _ v _ _ hv h.inv h.isb (Nat.le_trans h.len (by decide))).mono ?_
  rintro e w' ⟨rfl, hr, hg⟩
  exact ⟨rfl, h.grow hr hg (h.inv.lose _) (loseS_isB h.isb _ _) (loseS_length _ _ _)⟩
theorem RdR.pairs {w0 w : World} {S : List Int × Bool} {c : Rep9} {u : Value} (h : RdR w0 w S c u) :
    Calls Try.prog 45 #[.pointer (some ⟨w0.heap.size + 1, 0, none⟩)] w fun e w' => ∃ (a : Option Addr) (n k : Nat) (T : List Int × Bool), e = .returned (.slice a n k) ∧ RdR w0 w' T c u ∧
      ((T.2 = true ∧ pairsOk S = false) ∨ (T = (pairsS S).2 ∧ OwnsP w' w.heap.size (.slice a n k) (pairsS S).1)) := by
  obtain ⟨v, hv⟩ := h.rd
  refine (readPairs_any w _ _ v S hv h.inv h.isb h.len).mono ?_
  rintro e w' ⟨a, n, k, T, rfl, hr, hi, hB, hl, hg, hd⟩
  exact ⟨a, n, k, T, rfl, h.grow hr hg hi hB hl, hd⟩
theorem RepAt.put {w : World} {b : Nat} {c c' : Rep9} {u u' : Value} (h : RepAt w b c u) (i : Nat) (v : Value) (hi : i < 5) (hc : c'.arr u' = (c.arr u).set i v (by show i < 5; exact hi)) : RepAt (w.setCell ⟨b, i, none⟩ v) b c' u' := by
  unfold RepAt
  rw [hc]
  exact set_block9 h i v _
/-- A whole reply stored into a box; a row of pairs from block B on stays. -/
theorem fillR9 {w0 w : World} {b : Nat} {c0 : Rep9} {u0 : Value} (h : RepAt w b c0 u0) (hb : Below w0.heap.size w0 w) (hle : w0.heap.size ≤ b) (err : Int) (fnd : Bool) (val : ByteArray) (ses : Int) (a : Option Addr) (n k : Nat) (l : List (ByteArray × ByteArray)) :
    RepAt (((((w.setCell ⟨b, 0, none⟩ (.int .i64 err)).setCell ⟨b, 1, none⟩ (.bool fnd)).setCell ⟨b, 2, none⟩ (.string val)).setCell ⟨b, 3, none⟩ (.int .i64 ses)).setCell ⟨b, 4, none⟩ (.slice a n k)) b ⟨err, fnd, val, ses, l⟩ (.slice a n k) ∧ Below w0.heap.size w0 (((((w.setCell ⟨b, 0, none⟩ (.int .i64 err)).setCell ⟨b, 1, none⟩ (.bool fnd)).setCell ⟨b, 2, none⟩ (.string val)).setCell ⟨b, 3, none⟩ (.int .i64 ses)).setCell ⟨b, 4, none⟩ (.slice a n k)) :=
  ⟨(((((h.put (c' := ⟨err, c0.found, c0.val, c0.ses, l⟩) (u' := u0) 0 (.int .i64 err) (by omega) rfl).put (c' := ⟨err, fnd, c0.val, c0.ses, l⟩) (u' := u0) 1 (.bool fnd) (by omega) rfl).put (c' := ⟨err, fnd, val, c0.ses, l⟩) (u' := u0) 2 (.string val) (by omega) rfl).put (c' := ⟨err, fnd, val, ses, l⟩) (u' := u0) 3 (.int .i64 ses) (by omega) rfl).put (c' := ⟨err, fnd, val, ses, l⟩) (u' := (.slice a n k)) 4 (.slice a n k) (by omega) rfl), (((((hb.setCell (p := ⟨b, 0, none⟩) hle _).setCell (p := ⟨b, 1, none⟩) hle _).setCell (p := ⟨b, 2, none⟩) hle _).setCell (p := ⟨b, 3, none⟩) hle _).setCell (p := ⟨b, 4, none⟩) hle _)⟩
theorem fillP9 {w : World} {b B : Nat} {pv : Value} {l : List (ByteArray × ByteArray)} (ho : OwnsP w B pv l) (hlt : b < B) (err : Int) (fnd : Bool) (val : ByteArray) (ses : Int) (a : Option Addr) (n k : Nat) : OwnsP (((((w.setCell ⟨b, 0, none⟩ (.int .i64 err)).setCell ⟨b, 1, none⟩ (.bool fnd)).setCell ⟨b, 2, none⟩ (.string val)).setCell ⟨b, 3, none⟩ (.int .i64 ses)).setCell ⟨b, 4, none⟩ (.slice a n k)) B pv l :=
  (((((ho.kept7 (grown_set _ b 0 _) hlt).kept7 (grown_set _ b 1 _) hlt).kept7 (grown_set _ b 2 _) hlt).kept7 (grown_set _ b 3 _) hlt).kept7 (grown_set _ b 4 _) hlt)
end Go.Proofs.Ytomhmoedicajoaa
