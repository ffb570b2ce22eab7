import Derived.Test.YtephoegcpjdglaaWaE
import Derived.Test.YtephoegcpjdglaaEp6To
import Derived.Test.YtephoegcpjdglaaLd
import Derived.Test.YtephoegcpjdglaaW1
import Derived.WalkKit
import Derived.Lib.EndianBits
import Derived.BigQuiet
import Derived.WalkSmall
import Derived.Deep.RegionLaw
import Derived.Test.YtephoegcpjdglaaRef7To
import Derived.Test.YtephoegcpjdglaaOnceTo
import Derived.Test.YtephoegcpjdglaaRnyTo
import Derived.Test.YtephoegcpjdglaaLxTo
import Derived.Test.YtephoegcpjdglaaHRowETo
import Derived.Test.YtephoegcpjdglaaRg3
import Derived.Test.YtephoegcpjdglaaDs0To
import Derived.ArgAppend
import Derived.Test.YtephoegcpjdglaaEnQTo
import Derived.Test.YtephoegcpjdglaaDkN
import Derived.Lib.SliceRun
namespace Go.Proofs.Ytephoegcpjdglaa
open Go.RowKit Go.Shelf
structure Stay (G : Nat → Prop) (t : TypeId) (X Y : World) : Prop where
  size : X.heap.size ≤ Y.heap.size
  block : ∀ b a fr, G b → X.heap[b]? = some (.cells a t fr) → Y.heap[b]? = some (.cells a t fr)
section
variable {G H S : Nat → Prop} {t : TypeId} {X Y Z : World}
theorem Stay.of_turn (h : Turn S X Y) (hs : ∀ k, G k → ¬ S k) : Stay G t X Y := ⟨h.size, fun b _ _ hg hb => (h.block b (box_lt hb) (hs b hg)).trans hb⟩
theorem Stay.of_below (h : Below X.heap.size X Y) : Stay G t X Y := ⟨h.size, fun b _ _ _ hb => (h.block b (box_lt hb)).trans hb⟩
theorem Stay.of_grown {row : Option Nat} (h : X.grownBy Y row) (hr : ∀ k, row = some k → ∀ a fr, X.heap[k]? ≠ some (.cells a t fr)) : Stay G t X Y :=
  ⟨h.size, fun b a fr _ hb => (h.block b (box_lt hb) (fun e => hr b e.symm a fr hb)).trans hb⟩
theorem Stay.of_set {b i : Nat} {c : Array Value} {t' : TypeId} {f : Nat × Nat} (hb : X.heap[b]? = some (.cells c t' f)) (hne : t' ≠ t) (v : Value) : Stay G t X (X.setCell ⟨b, i, none⟩ v) :=
  Stay.of_grown (grown_set X b i v) fun k hk a fr he => by
    cases hk
    rw [hb] at he
    simp only [Option.some.injEq, Obj.cells.injEq] at he
    exact hne he.2.1
end
structure ListG (w : World) (G : Nat → Prop) (s : Sl10) (xs : List Int) : Prop where
  has : HasI w (.slice s.p s.n s.c) xs
  blk : 0 < s.n → ∃ b o a fr, s.p = some ⟨b, o, none⟩ ∧ G b ∧ w.heap[b]? = some (.cells a 3 fr)
section
variable {G H : Nat → Prop} {X Y : World} {s : Sl10} {xs : List Int}
theorem ListG.stay (h : ListG X G s xs) (k : Stay G 3 X Y) : ListG Y G s xs := by
  refine ⟨?_, fun h0 => ?_⟩
  · obtain ⟨p, c, hv, h1, h2, h3⟩ := h.has
    refine ⟨p, c, hv, h1, h2, fun h0 => ?_⟩
    obtain ⟨b, o, rfl, hlt, hc⟩ := h3 h0
    have hn : 0 < s.n := by
      simp only [Value.slice.injEq] at hv
      omega
    obtain ⟨b', o', a, fr, hp, hg, hb⟩ := h.blk hn
    simp only [Value.slice.injEq] at hv
    rw [hv.1] at hp
    cases hp
    have hb2 := k.block _ _ _ hg hb
    exact ⟨b, o, rfl, box_lt hb2, fun i hi => (World.cell?_of_block (a := ⟨b, o + i, none⟩) (hb2.trans hb.symm)).trans (hc i hi)⟩
  · obtain ⟨b, o, a, fr, hp, hg, hb⟩ := h.blk h0
    exact ⟨b, o, a, fr, hp, hg, k.block _ _ _ hg hb⟩
theorem ListG.mono (h : ListG X G s xs) (hg : ∀ k, G k → H k) : ListG X H s xs := ⟨h.has, fun h0 => by
  obtain ⟨b, o, a, fr, hp, h1, hb⟩ := h.blk h0
  exact ⟨b, o, a, fr, hp, hg b h1, hb⟩⟩
theorem ListG.of_owns {B : Nat} (h : OwnsI X B (.slice s.p s.n s.c) xs) (hG : ∀ k, B ≤ k → k < X.heap.size → G k) : ListG X G s xs := by
  refine ⟨h.has, fun h0 => ?_⟩
  rcases h.2 with ⟨hv, hn⟩ | ⟨g, cap, cur, hv, hB, hg, _, _, _, _⟩
  · simp only [Value.slice.injEq] at hv
    omega
  · simp only [Value.slice.injEq] at hv
    exact ⟨g, 0, cur, _, hv.1, hG g hB (box_lt hg), hg⟩
end
structure EntG (w : World) (G : Nat → Prop) (x : EntV) : Prop where
  i : inI x.i
  t : inI x.t
  k : inI x.k
  c : Fits9 x.c
  u : ListG w G x.f.u x.f.f.vs
  v : ListG w G x.f.v x.f.f.ls
  iu : inL x.f.f.vs
  iv : inL x.f.f.ls
  lu : x.f.f.vs.length ≤ 1000000
  lv : x.f.f.ls.length ≤ 1000000
section
variable {G H : Nat → Prop} {X Y : World} {x : EntV} {r : RecV}
theorem EntG.stay (h : EntG X G x) (k : Stay G 3 X Y) : EntG Y G x := ⟨h.i, h.t, h.k, h.c, h.u.stay k, h.v.stay k, h.iu, h.iv, h.lu, h.lv⟩
theorem EntG.mono (h : EntG X G x) (hg : ∀ k, G k → H k) : EntG X H x := ⟨h.i, h.t, h.k, h.c, h.u.mono hg, h.v.mono hg, h.iu, h.iv, h.lu, h.lv⟩
theorem EntG.fits (h : EntG X G x) : FitsE X x := ⟨h.i, h.t, h.k, h.c, ⟨h.u.has, h.v.has, h.iu, h.iv, Nat.le_trans h.lu (by decide), Nat.le_trans h.lv (by decide)⟩⟩
theorem EntG.of_owns {B : Nat} (h : OwnsE X B x) (hG : ∀ k, B ≤ k → k < X.heap.size → G k) : EntG X G x := ⟨h.i, h.t, h.k, h.c, .of_owns h.f.u hG, .of_owns h.f.v hG, h.f.iu, h.f.iv, h.f.lu, h.f.lv⟩
end
def Sl10.blk (s : Sl10) : Option Nat := if s.c = 0 then none else s.p.map fun a => a.block
structure RowG (w : World) (G : Nat → Prop) (s : Sl10) (es : List EntV) : Prop where
  n : es.length = s.n
  c : s.n ≤ s.c
  nl : s.p = none → s.c = 0
  at' : 0 < s.c → ∃ g o a, s.p = some ⟨g, o, none⟩ ∧ G g ∧ w.heap[g]? = some (.cells a 51 (0, 0)) ∧ o + s.c * 13 ≤ a.size ∧ ∀ i, i < s.n → ∀ j, j < 13 → a[o + i * 13 + j]? = (es.getD i noEV).arr[j]?
  all : ∀ e ∈ es, EntG w G e
section
variable {G H : Nat → Prop} {X Y : World} {s : Sl10} {es : List EntV}
theorem RowG.nil (X : World) (G : Nat → Prop) : RowG X G nilS10 [] := ⟨rfl, Nat.le_refl _, fun _ => rfl, fun h => absurd h (Nat.lt_irrefl 0), fun _ h => by cases h⟩
theorem RowG.mono (h : RowG X G s es) (hg : ∀ k, G k → H k) : RowG X H s es := ⟨h.n, h.c, h.nl, fun h0 => by
  obtain ⟨g, o, a, h1, h2, h3⟩ := h.at' h0
  exact ⟨g, o, a, h1, hg g h2, h3⟩, fun e he => (h.all e he).mono hg⟩
theorem RowG.stay (h : RowG X G s es) (k1 : Stay G 3 X Y) (k2 : Stay G 51 X Y) : RowG Y G s es := ⟨h.n, h.c, h.nl, fun h0 => by
  obtain ⟨g, o, a, h1, h2, h3, h4⟩ := h.at' h0
  exact ⟨g, o, a, h1, h2, k2.block _ _ _ h2 h3, h4⟩, fun e he => (h.all e he).stay k1⟩
theorem RowG.has (h : RowG X G s es) : HasE X s es := ⟨h.n, h.c, h.nl, fun h0 => by
  obtain ⟨g, o, a, h1, h2, h3, h4, h5⟩ := h.at' (Nat.lt_of_lt_of_le h0 h.c)
  exact ⟨g, o, h1, box_lt h3, fun i hi j hj => (box_cell h3 _).trans (h5 i hi j hj)⟩, fun e he => (h.all e he).fits⟩
theorem RowG.blk (h : RowG X G s es) {k : Nat} (hk : s.blk = some k) : G k ∧ ∃ a, X.heap[k]? = some (.cells a 51 (0, 0)) := by
  unfold Sl10.blk at hk
  split at hk
  · cases hk
  · obtain ⟨g, o, a, h1, h2, h3, h4, h5⟩ := h.at' (by omega)
    rw [h1] at hk
    simp only [Option.map_some, Option.some.injEq] at hk
    subst hk
    exact ⟨h2, a, h3⟩
theorem RowG.lists (h : RowG X G s es) (hg : X.grownBy Y s.blk) : Stay H 3 X Y := Stay.of_grown hg fun k hk a fr he => by
  obtain ⟨_, c, hc⟩ := h.blk hk
  rw [hc] at he
  simp only [Option.some.injEq, Obj.cells.injEq] at he
  exact absurd he.2.1 (by decide)
theorem RowG.of_owns {B : Nat} (h : X.ownsRow B 51 13 (.slice s.p s.n s.c) es.length (entsV es)) (hG : ∀ k, B ≤ k → k < X.heap.size → G k) (ha : ∀ e ∈ es, EntG X G e) : RowG X G s es := by
  rcases h.2 with ⟨hv, hn⟩ | ⟨g, cap, cur, hv, hB, hg, hnc, _, hcs, htake⟩
  · simp only [Value.slice.injEq] at hv
    obtain ⟨h1, h2, h3⟩ := hv
    exact ⟨by omega, by omega, fun _ => h3, fun h0 => by omega, ha⟩
  · simp only [Value.slice.injEq] at hv
    obtain ⟨h1, h2, h3⟩ := hv
    refine ⟨h2.symm, by omega, (fun h0 => by rw [h1] at h0; cases h0), fun h0 => ⟨g, 0, cur, h1, hG g hB (box_lt hg), hg, ?_, fun i hi j hj => ?_⟩, ha⟩
    · rw [Nat.zero_add, h3, ← hcs]; exact Nat.le_refl _
    · have hi' : i < es.length := by omega
      have hk := entsV_at hi' hj
      have hjj : j < ((es.getD i noEV).arr).size := hj
      rw [Array.getElem?_eq_getElem hjj] at hk ⊢
      have hc := World.ownsRow.cells h (g := g) (by rw [h1]; rfl) (i * 13 + j) _ hk
      rw [Addr.add_lit, box_cell hg, ← Nat.add_assoc] at hc
      exact hc
end
end Go.Proofs.Ytephoegcpjdglaa

namespace Go.Proofs.Ytephoegcpjdglaa
open Go.RowKit Go.Shelf
attribute [local go_sem ↓] ldE_exec stE_exec ldE_execI stE_execI ldE_run ldE_box ldC_exec stC_exec ldC_execI stC_execI ldC_run oc_int oc_bool oc_string oc_slice oc_pointer
theorem elemE11 : Elem8 Try.prog 22 51 13 168 := elem8 Try.underlying22 (z := .agg noEV.arr) (by kernel_rfl) rfl (by decide)
theorem earr_cell (x : EntV) : ∀ u ∈ x.arr.toList, u.oneCell' = true := by
  intro u hu
  have := entsV_cell [x] u
  rw [entsV_one] at this
  exact this hu
theorem grown_any {w w' : World} (h : w.grownBy w' none) (r : Option Nat) : w.grownBy w' r := ⟨h.os, h.tape, h.output, h.size, fun k hk _ => h.block k hk (fun e => by cases e)⟩
theorem blk_eq {s : Sl10} {g o : Nat} (hp : s.p = some ⟨g, o, none⟩) (hc : 0 < s.c) : s.blk = some g := by
  unfold Sl10.blk
  rw [if_neg (by omega), hp]
  rfl
theorem row_left11 {w w' : World} {B e s n r : Nat} {v : Value} {xs : List Value} (h : w.ownsRow B e s v n xs) (hg : w.grownBy w' (some r)) (hr : r < B) : w'.ownsRow B e s v n xs := World.ownsRow.kept h hg (by
  cases hv : v.ownBlock with
  | none => exact .inl rfl
  | some k =>
    have := (World.ownsRow.lt h k hv).1
    exact .inr (fun e => by cases e; omega))
theorem more_in {G : Nat → Prop} {X Y : World} : ∀ k, G k → more8 G X Y k := fun _ h => .inl h
theorem more_new {G : Nat → Prop} {X Y : World} {B : Nat} (hB : X.heap.size ≤ B) : ∀ k, B ≤ k → k < Y.heap.size → more8 G X Y k := fun _ h1 h2 => .inr ⟨by omega, h2⟩

theorem put_len {l vs : List Value} {o : Nat} (h : o + vs.length ≤ l.length) : (l.take o ++ vs ++ l.drop (o + vs.length)).length = l.length := by
  simp only [List.length_append, List.length_take, List.length_drop]
  omega
theorem put_old {l vs : List Value} {o i : Nat} (h : o + vs.length ≤ l.length) (hi : i < o) : (l.take o ++ vs ++ l.drop (o + vs.length))[i]? = l[i]? := by
  rw [List.append_assoc, List.getElem?_append_left (by rw [List.length_take]; omega), List.getElem?_take_of_lt hi]
theorem put_new {l vs : List Value} {o i : Nat} (h : o + vs.length ≤ l.length) (hi : i < vs.length) : (l.take o ++ vs ++ l.drop (o + vs.length))[o + i]? = vs[i]? := by
  rw [List.append_assoc, List.getElem?_append_right (by rw [List.length_take]; omega), List.length_take, Nat.min_eq_left (by omega), Nat.add_sub_cancel_left, List.getElem?_append_left hi]
theorem zeroE11 (w : World) : (zeroValue 51).run Try.prog w = .ok (.agg noEV.arr) w := by kernel_rfl
theorem elemI11 : Elem8 Try.prog 47 3 1 8 := elem8 Try.underlying47 (z := .int .i64 0) (by kernel_rfl) rfl (by decide)
theorem sliceI_nil (a : Addr) (n c : Nat) (W : World) : (binOp .eql 47 (.slice (some a) n c) (.slice none 0 0)).run Try.prog W = .ok (.bool false) W := by
  simp [binOp, go_sem]
  show ((Op.equalIn (9999 + 1) 47 (.slice (some a) n c) (.slice none 0 0)).run Try.prog W).andThen _ = _
  rw [equal_slice8 9999 _ _ a n c W Try.underlying47]
  rfl
theorem sliceI_nil2 (W : World) : (binOp .eql 47 (.slice none 0 0) (.slice none 0 0)).run Try.prog W = .ok (.bool true) W := by
  simp [binOp, go_sem]
  show ((Op.equalIn (9999 + 1) 47 (.slice none 0 0) (.slice none 0 0)).run Try.prog W).andThen _ = _
  rw [equal_slice9 9999 _ _ W Try.underlying47]
  rfl
theorem hasR_of_hasI {w : World} {v : Value} {xs : List Int} (h : HasI w v xs) : HasR w 1 v xs.length (xs.map (Value.int .i64)) := by
  obtain ⟨p, c, rfl, h1, h2, h3⟩ := h
  refine ⟨p, c, rfl, h1, h2, by simp, fun h0 => ?_⟩
  obtain ⟨b, o, rfl, hb, hc⟩ := h3 h0
  refine ⟨b, o, rfl, hb, fun j u hj => ?_⟩
  have hjl : j < xs.length := by
    have := (List.getElem?_eq_some_iff.1 hj).1
    simpa using this
  rw [hc j hjl]
  simp [List.getElem?_eq_getElem hjl] at hj
  subst hj
  simp [List.getElem?_eq_getElem hjl]
theorem ints_one (xs : List Int) : ∀ u ∈ xs.map (Value.int .i64), u.oneCell' = true := by
  intro u hu
  obtain ⟨x, _, rfl⟩ := List.mem_map.1 hu
  rfl
theorem OwnsI.none (w : World) (B : Nat) : OwnsI w B (.slice Option.none 0 0) [] := World.ownsRow_nil w B _ 1
set_option maxRecDepth 10000 in
theorem clone11 {v : Value} {xs : List Int} (w : World) (h : HasI w v xs) (hl : xs.length ≤ 1000000) :
    Calls Try.prog 67 #[v] w fun e w' => (∃ p c, e = .returned (.slice p xs.length c) ∧ OwnsI w' w.heap.size (.slice p xs.length c) xs) ∧ Below w.heap.size w w' := by
  have hR := hasR_of_hasI h
  obtain ⟨p, c, rfl, h1, h2, h3⟩ := h
  obtain ⟨n, Hn⟩ : ∃ n, Hid (xs.length = n) := ⟨_, rfl⟩
  rw [Hn.out] at hR h1 h3 hl ⊢
  cases p with
  | none =>
    obtain rfl := h2 rfl
    obtain rfl : n = 0 := by omega
    obtain rfl : xs = [] := List.eq_nil_of_length_eq_zero Hn.out
    have hnil := sliceI_nil2
    go_enter Try.func67, Try.ntmps67
    go_wp2
    go_ret
    exact ⟨⟨_, _, rfl, OwnsI.none _ _⟩, Below.refl _ _⟩
  | some a =>
    have hnil := sliceI_nil a n c
    have he : (w.alloc (.cells #[] 3)).ownsRow w.heap.size 3 1 (.slice (some ⟨w.heap.size, 0, none⟩) 0 0) 0 [] := row_none9 w w _ _ (Nat.le_refl _)
    have hba : Below w.heap.size w (w.alloc (.cells #[] 3)) := (Below.refl _ _).alloc (Nat.le_refl _) _
    have hR' : HasR (w.alloc (.cells #[] 3)) 1 (.slice (some a) n c) n (xs.map (Value.int .i64)) := by
      obtain ⟨p, c', e, q1, q2, q3, q4⟩ := hR
      refine ⟨p, c', e, q1, q2, q3, fun h0 => ?_⟩
      obtain ⟨b, o, e, hb, hc⟩ := q4 h0
      exact ⟨b, o, e, Nat.lt_of_lt_of_le hb hba.size, fun j u hj => (hba.cell (p := ⟨b, o + j, none⟩) hb).trans (hc j u hj)⟩
    have hsz : w.heap.size ≤ (w.alloc (.cells #[] 3)).heap.size := hba.size
    have h0n : 0 + n ≤ 1099511627776 := by omega
    have h0m : (0 + n) * 8 ≤ 140737488355328 := by omega
    go_enter Try.func67, Try.ntmps67
    go_wp2_with (at_builtin; refine ap_row elemI11 _ rfl _ _ rfl w.heap.size _ _ 0 n [] (xs.map (Value.int .i64)) rfl rfl hR' (ints_one _) he h0n h0m hsz ?_; intro v' w' hown' hgrow hwh; refine Halt8.out ?_)
    rw [Nat.zero_add, List.nil_append] at hown'
    have hb : Below w.heap.size w w' := hba.trans ((Below.refl _ _).grown hgrow hsz fun k hk => (World.ownsRow.lt he k hk).1)
    obtain ⟨p', n', c', rfl⟩ := row_shape11 hown'
    have hn' : n' = n := by
      rcases hown'.2 with ⟨hv, h0⟩ | ⟨g, cap, cur, hv, _⟩
      · simp only [Value.slice.injEq] at hv; omega
      · simp only [Value.slice.injEq] at hv; omega
    subst hn'
    have ho : OwnsI w' w.heap.size (.slice p' n' c') xs := by unfold OwnsI; rw [Hn.out]; exact hown'
    clear hgrow hwh hown' hR hR' he
    constructor
    go_wp2
    go_ret
    exact ⟨⟨_, _, rfl, ho⟩, hb⟩

theorem stE_arr {w : World} {b : Nat} (o : Nat) (x : EntV) (h : w.there b o 13) : (stE (.pointer (some ⟨b, o, none⟩)) (.agg x.arr)).run Try.prog w = .ok () (w.setCells b o x.arr.toList) := by
  refine run_storeAt_mid w b o 51 x.arr h (by show _ = some 13; kernel_rfl) ?_
  have := all_oneCell_toArray (cs := x.arr.toList) (earr_cell x)
  rwa [Array.toArray_toList] at this
theorem HasE.ld {W : World} {s : Sl10} {es : List EntV} (h : HasE W s es) {j : Nat} (hj : j < s.n) : ∃ b o, s.p = some ⟨b, o, none⟩ ∧ b < W.heap.size ∧ (ldE (.pointer (some ⟨b, o + j * 13, none⟩))).run Try.prog W = .ok (.agg (es.getD j noEV).arr) W := by
  obtain ⟨b, o, hp, hlt, hc⟩ := h.at' (by omega)
  refine ⟨b, o, hp, hlt, ?_⟩
  refine (run_loadAt_mid W b (o + j * 13) 51 (es.getD j noEV).arr.toList _ (fun i v hi => ?_) Try.underlying51 rfl (by rw [arr_len]; kernel_rfl)).trans (by rw [Array.toArray_toList])
  have hi13 : i < 13 := by
    have := (List.getElem?_eq_some_iff.1 hi).1
    rwa [arr_len] at this
  rw [hc j hj i hi13, ← Array.getElem?_toList]
  exact hi
theorem setE_box {w : World} {b : Nat} {t : TypeId} {a : Array Value} (x : EntV) (h : w.heap[b]? = some (.cells a t (0, 0))) (hs : a.size = 13) : (w.setCells b 0 x.arr.toList).heap[b]? = some (.cells x.arr t (0, 0)) :=
  setCells_box h 0 _ _ (by rw [arr_len]; omega) (by rw [arr_len]; simp [List.drop_of_length_le, hs])

def bsE (x : Value) : Sem Value := Instr.buildSlice 22 1 #[(0, x)]
theorem bsE_exec (ρ : Operand → Value) (d : Option Tmp) (x : Operand) (t : TypeId) (p : String) (af : Array Edge) (g : Option (Nat × Bool)) (w : World) : (execOp ρ { dst := d, op := .buildSlice 22 1 #[(0, x)], type := t, pos := p, after := af, guard := g }).run Try.prog w = ((bsE (ρ x)).run Try.prog w).andThen fun v w' => .ok (.value v) w' := by
  unfold execOp bsE
  simp only [Sem.run_bind, Sem.run_pure, List.map_toArray, List.map_cons, List.map_nil]
theorem bsE_execI (ro : Option Nat) (ρ : Operand → Value) (d : Option Tmp) (x : Operand) (t : TypeId) (p : String) (af : Array Edge) (g : Option (Nat × Bool)) (w : World) : (Oper.semAt ro ρ { dst := d, op := .buildSlice 22 1 #[(0, x)], type := t, pos := p, after := af, guard := g }).run Try.prog w = ((bsE (ρ x)).run Try.prog w).andThen fun v w' => .ok (.value v) w' := by
  rw [Oper.semAt_eq _ _ _ (by intro c h; cases h)]
  exact bsE_exec ρ d x t p af g w

set_option maxRecDepth 100000 in
theorem bsE_run (w : World) (y : EntV) : (bsE (.agg y.arr)).run Try.prog w = .ok (.slice (some ⟨w.heap.size, 0, none⟩) 1 1) (w.alloc (.cells y.arr 51)) := by
  obtain ⟨xi, xt, xk, ⟨ck, cs, cq, ckey, cold, cval, cunt, clim⟩, ⟨⟨p1, n1, c1⟩, ⟨q1, m1, d1⟩, f1⟩⟩ := y
  unfold bsE EntV.arr
  go_simp

theorem getD_memE {l : List EntV} {j : Nat} (h : j < l.length) : l.getD j noEV ∈ l := by
  rw [List.getD_eq_getElem?_getD, List.getElem?_eq_getElem h]
  exact List.getElem_mem h
theorem take_snocE {l : List EntV} {j : Nat} (h : j < l.length) : l.take (j + 1) = l.take j ++ [l.getD j noEV] := by
  rw [List.take_add_one, List.getElem?_eq_getElem h, List.getD_eq_getElem?_getD, List.getElem?_eq_getElem h]
  rfl
end Go.Proofs.Ytephoegcpjdglaa
