/-
  The document's reader of messages: mathematics, and how it lies in memory.
-/
import Derived.Test.YtnbaoimjcaeeaaaGreatEq6
import Derived.Test.YtnbaoimjcaeeaaaGreatEq5To
import Derived.Test.YtnbaoimjcaeeaaaGreatEp2
namespace Go.Proofs.YtnbaoimjcaeeaaaGreat
open Go.RowKit Go.Shelf

/-- What is behind the numbers of a message, as the document reads it. -/
def dtail10 (k fr too t i lt cm ro : Int) (rej : Bool) (hint : Int) : St → Msg10 × St := bindR (mes10 1000000 k) fun es => bindR (msn10 1000000 k) fun sn => retR ⟨k, fr, too, t, i, lt, cm, ro, rej, hint, es, sn⟩
theorem msg10_is {S0 S1 S2 S3 S4 S5 S6 S7 S8 S9 S10 : St} {k fr too t i lt cm ro hint : Int} {rej : Bool} (e0 : int9 S0 = (k, S1)) (e1 : int9 S1 = (fr, S2)) (e2 : int9 S2 = (too, S3)) (e3 : int9 S3 = (t, S4)) (e4 : int9 S4 = (i, S5)) (e5 : int9 S5 = (lt, S6)) (e6 : int9 S6 = (cm, S7)) (e7 : int9 S7 = (ro, S8)) (e8 : bool9 S8 = (rej, S9)) (e9 : int9 S9 = (hint, S10)) :
    msg10 1000000 S0 = dtail10 k fr too t i lt cm ro rej hint S10 := by
  unfold msg10
  rw [bindR_eq e0, bindR_eq e1, bindR_eq e2, bindR_eq e3, bindR_eq e4, bindR_eq e5, bindR_eq e6, bindR_eq e7, bindR_eq e8, bindR_eq e9]
  rfl
theorem dtail10_app (fr too t i lt cm ro : Int) (rej : Bool) (hint : Int) {S S' : St} {es : List Ent10} (h : Tell10 (ents10 1000000 (cnt10 16 S).1 (cnt10 16 S).2) es S') : Tell10 (dtail10 5 fr too t i lt cm ro rej hint S) ⟨5, fr, too, t, i, lt, cm, ro, rej, hint, es, noS10⟩ S' := by
  have h1 : mes10 1000000 5 = bindR (cnt10 16) fun n => ents10 1000000 n := if_pos rfl
  have h2 : msn10 1000000 5 S' = (noS10, S') := by unfold msn10; rw [if_neg (by decide)]; rfl
  have h3 : Tell10 (bindR (cnt10 16) (fun n => ents10 1000000 n) S) es S' := by rw [bindR_def]; exact h
  unfold dtail10
  rw [h1]
  exact Tell10.bind h3 (.inl (by rw [bindR_eq h2]; rfl)) (fun _ => (stays_msn _ _).bind fun _ => Stays.ret _) id
theorem dtail10_snap (fr too t i lt cm ro : Int) (rej : Bool) (hint : Int) {S S' : St} {sn : Snap10} (h : Tell10 (snap10 1000000 S) sn S') : Tell10 (dtail10 7 fr too t i lt cm ro rej hint S) ⟨7, fr, too, t, i, lt, cm, ro, rej, hint, [], sn⟩ S' := by
  have h1 : mes10 1000000 7 S = ([], S) := by unfold mes10; rw [if_neg (by decide)]; rfl
  have h2 : msn10 1000000 7 = snap10 1000000 := if_pos rfl
  unfold dtail10
  rw [bindR_eq h1, h2]
  exact Tell10.bind h (.inl rfl) (fun _ => Stays.ret _) id
theorem dtail10_else (k fr too t i lt cm ro : Int) (rej : Bool) (hint : Int) (S : St) (h5 : k ≠ 5) (h7 : k ≠ 7) : dtail10 k fr too t i lt cm ro rej hint S = (⟨k, fr, too, t, i, lt, cm, ro, rej, hint, [], noS10⟩, S) := by
  have h1 : mes10 1000000 k S = ([], S) := by unfold mes10; rw [if_neg h5]; rfl
  have h2 : msn10 1000000 k S = (noS10, S) := by unfold msn10; rw [if_neg h7]; rfl
  unfold dtail10
  rw [bindR_eq h1, bindR_eq h2]
  rfl
theorem ents_step {T S' S'' : St} {j : Nat} {es : List Ent10} {a : Ent10} (h : Tell10 (ents10 1000000 j T) es S') (h2 : Tell10 (ent10 1000000 S') a S'') : Tell10 (ents10 1000000 (j + 1) T) (es ++ [a]) S'' := by
  rw [ents10_bind]
  exact Tell10.bind h (Tell10.bind h2 (.inl rfl) (fun _ => Stays.ret _) id) (fun _ => (stays_ent _).bind fun _ => Stays.ret _) fun hw => h2.stays (stays_ent _) hw
theorem ents_wrong (T : St) {j n : Nat} (h : j ≤ n) (hw : (ents10 1000000 j T).2.2 = true) : (ents10 1000000 n T).2.2 = true := by
  induction h with
  | refl => exact hw
  | step _ ih =>
    rw [ents10_bind, bindR_def]
    exact ((stays_ent 1000000).bind fun _ => Stays.ret _) _ ih
theorem ents_end {T S' : St} {j N : Nat} {es : List Ent10} (h : Tell10 (ents10 1000000 j T) es S') (hj : j ≤ N) (hw : S'.2 = true) : Tell10 (ents10 1000000 N T) es S' := by
  refine .inr ⟨hw, ents_wrong T hj ?_⟩
  rcases h with h | ⟨_, h⟩
  · rw [h]; exact hw
  · exact h

/-- A message that the call made; its snapshot's bytes lie in a block of their own. -/
structure LiesM (w : World) (B : Nat) (x : MsgV) : Prop where
  k : inI x.k
  fr : inI x.fr
  too : inI x.«to»
  t : inI x.t
  i : inI x.i
  lt : inI x.lt
  cm : inI x.cm
  ro : inI x.ro
  hint : inI x.hint
  es : OwnsEs w B x.w x.es
  few : x.es.length ≤ 16
  sn : LiesS w B x.sn
theorem LiesM.fits {w : World} {B : Nat} {x : MsgV} (h : LiesM w B x) : FitsM w x :=
  ⟨h.k, h.fr, h.too, h.t, h.i, h.lt, h.cm, h.ro, h.hint, h.es.fits, by have := h.es.fits.n; have := h.few; omega, h.sn.fits⟩
theorem LiesM.kept {w w' : World} {B r : Nat} {x : MsgV} (h : LiesM w B x) (hg : w.grownBy w' (some r)) (hr : r < B) : LiesM w' B x := ⟨h.k, h.fr, h.too, h.t, h.i, h.lt, h.cm, h.ro, h.hint, h.es.kept hg hr, h.few, h.sn.kept hg hr⟩
theorem LiesM.cell {w : World} {B b : Nat} {x : MsgV} (h : LiesM w B x) (hb : b < B) (i : Nat) (v : Value) : LiesM (w.setCell ⟨b, i, none⟩ v) B x := h.kept (grown_set w b i v) hb
theorem LiesM.below {w w' : World} {B : Nat} {x : MsgV} (h : LiesM w B x) (hb : Below w.heap.size w w') : LiesM w' B x := ⟨h.k, h.fr, h.too, h.t, h.i, h.lt, h.cm, h.ro, h.hint, h.es.below hb, h.few, h.sn.below hb⟩
theorem LiesM.nil (w : World) (B : Nat) : LiesM w B noMV := by
  have z : inI 0 := ⟨by decide, by decide⟩
  exact ⟨z, z, z, z, z, z, z, z, z, OwnsEs.nil w B, Nat.zero_le _, LiesS.nil w B⟩

/-- The result's box, the reader, the box that is being filled: made in this order. -/
structure RdM (w wc : World) (S : St) (a z : Array Value) : Prop where
  r : Rdr w wc (w.heap.size + 1) S
  box : wc.heap[w.heap.size + 2]? = some (.cells a 53 (0, 0))
  res : wc.heap[w.heap.size]? = some (.cells z 53 (0, 0))
theorem RdM.left {w wc wd : World} {S S' : St} {a z : Array Value} (h : RdM w wc S a z) (hl : Left10 w wc (w.heap.size + 1) S' wd) : RdM w wd S' a z := ⟨hl.1, grown_box hl.2 h.box (by omega), grown_box hl.2 h.res (by omega)⟩
theorem RdM.put {w wc : World} {S : St} {a z : Array Value} (h : RdM w wc S a z) (i : Nat) (v : Value) (hi : i < a.size) : RdM w (wc.setCell ⟨w.heap.size + 2, i, none⟩ v) S (a.set i v hi) z :=
  ⟨h.r.cell (by omega) (by omega) i v, set_block9 h.box i v hi, grown_box (grown_set wc (w.heap.size + 2) i v) h.res (by omega)⟩
theorem RdM.more {w wc wd : World} {S : St} {a z : Array Value} (h : RdM w wc S a z) (hb : Below wc.heap.size wc wd) : RdM w wd S a z := ⟨h.r.more hb, box_below h.box hb, box_below h.res hb⟩
theorem RdM.moreB {w wc wd : World} {S : St} {a z : Array Value} (h : RdM w wc S a z) (hb : Below (w.heap.size + 3) wc wd) : RdM w wd S a z := by
  obtain ⟨v', hv'⟩ := h.r.rd
  exact ⟨⟨⟨v', hv'.below hb (by omega)⟩, h.r.bel.trans (hb.mono (by omega)), h.r.inv, h.r.isb, h.r.len⟩, (hb.block _ (by omega)).trans h.box, (hb.block _ (by omega)).trans h.res⟩
/-- 'append' to a row that the call made: a step of a region that draws its order. -/
theorem step_own {P : Program} {ops : Array Oper} {o : Oper} {a : Act} {K : Act → World → Prop} {Q : Exit → Act → World → Prop} {E : Prop} (w : World) (hgd : o.guard = none) (s x : Operand) (t : TypeId)
    (ho : o.op = .call { callee := .builtin .append, args := #[s, x], argTypes := #[t, t] })
    (base : Nat) (e : TypeId) (i : TypeInfo) (z : Value) (size bytes : Nat) (ht : P.underlying t = some (.slice e)) (hi : P.info? e = some i) (hz : i.zero = some z)
    (hsize : i.size = size) (hby : i.bytes = bytes) (hzs : z.cells.size = size) (hsz : 0 < size)
    (v : Value) (n : Nat) (xs : List Value) (hs : a.eval s = v) (hown : w.ownsRow base e size v n xs)
    (ad : Addr) (m c : Nat) (news : List Value) (hx : a.eval x = .slice (some ad) m c) (hl : news.length = m * size) (hnews : ∀ j u, news[j]? = some u → w.cell? (ad.add j) = some u) (h1 : ∀ u ∈ news, u.oneCell' = true)
    (h63 : n + m ≤ maxLen) (hbytes : (n + m) * bytes ≤ 140737488355328) (hbase : base ≤ w.heap.size)
    (h : ∀ v' w', w'.ownsRow base e size v' (n + m) (xs ++ news) → w.grownBy w' v.ownBlock → K (a.put o.dst v') w') :
    if Region.wanted o (yielded ops a.tmps) = true then Oper.wp P o a w K Q else E := by
  have hw : Region.wanted o (yielded ops a.tmps) = true := by simp [Region.wanted, hgd]
  rw [if_pos hw]
  exact wp_append_own w s x t ho base e i z size bytes ht hi hz hsize hby hzs hsz v n xs hs hown ad m c news hx hl hnews h1 h63 hbytes hbase fun v' w' h2 h3 _ => h v' w' h2 h3
theorem row_left {w w' : World} {B e s n r : Nat} {v : Value} {xs : List Value} (h : w.ownsRow B e s v n xs) (hg : w.grownBy w' (some r)) (hr : r < B) : w'.ownsRow B e s v n xs := World.ownsRow.kept h hg (by
  cases hv : v.ownBlock with
  | none => exact .inl rfl
  | some k =>
    have := (World.ownsRow.lt h k hv).1
    exact .inr (fun e => by cases e; omega))
/-- What 'append' of one entry asks, and what it leaves. -/
theorem pack10 {w2 : World} {B : Nat} {u : Value} {es : List EntV} {X : EntV} (ho : w2.ownsRow B 30 13 u es.length (entsV es)) (ha : ∀ e ∈ es, OwnsE w2 B e) (hX : OwnsE w2 B X) (hB : B ≤ w2.heap.size) :
    (w2.alloc (.cells X.arr 30)).ownsRow B 30 13 u es.length (entsV es) ∧ (∀ j x, X.arr.toList[j]? = some x → (w2.alloc (.cells X.arr 30)).cell? ((⟨w2.heap.size, 0, none⟩ : Addr).add j) = some x) ∧ (∀ y ∈ X.arr.toList, y.oneCell' = true) ∧
      Hid (∀ (w3 : World) (u3 : Value), w3.ownsRow B 30 13 u3 (es.length + 1) (entsV es ++ X.arr.toList) → (w2.alloc (.cells X.arr 30)).grownBy w3 u.ownBlock → Hid (∀ p n c, u3 = .slice p n c → OwnsEs w3 B ⟨p, n, c⟩ (es ++ [X])) ∧ Below B w2 w3) := by
  have hb : Below w2.heap.size w2 (w2.alloc (.cells X.arr 30)) := (Below.refl _ _).alloc (Nat.le_refl _) _
  have hoA := World.ownsRow.alloc ho (.cells X.arr 30)
  have hone := entsV_cell [X]
  rw [entsV_one] at hone
  refine ⟨hoA, new_row w2 X.arr 30, hone, fun w3 u3 h3 hg3 => ⟨fun p n c hu => ⟨?_, fun e he => ?_⟩, ?_⟩⟩
  · rw [entsV_append, entsV_one, List.length_append, List.length_singleton, ← hu]
    exact h3
  · rcases List.mem_append.1 he with he | he
    · exact ((ha e he).below hb).app hoA hg3
    · rw [List.mem_singleton.1 he]
      exact (hX.below hb).app hoA hg3
  · exact ((Below.refl B w2).alloc hB _).grown hg3 (by simp; omega) fun k hk => (World.ownsRow.lt ho k hk).1
theorem row_shape {w : World} {B : Nat} {e : TypeId} {s n : Nat} {v : Value} {xs : List Value} (h : w.ownsRow B e s v n xs) : ∃ p n c, v = .slice p n c := by
  rcases h.2 with ⟨rfl, _⟩ | ⟨g, cap, cur, rfl, _⟩
  · exact ⟨_, _, _, rfl⟩
  · exact ⟨_, _, _, rfl⟩
end Go.Proofs.YtnbaoimjcaeeaaaGreat
