import Derived.Test.YthlelcmifolnfaaGreatDoorDkM
import Derived.Test.YthlelcmifolnfaaGreatDoorDkBTo
import Derived.Test.YthlelcmifolnfaaGreatDoorChecked
import Derived.Sort.KeysCollected
import Derived.Maps.Ext
namespace Go.Proofs.YthlelcmifolnfaaGreatDoor
open Go.RowKit Go.Maps Go.WideMaps
def ptrR (v : Value) : Option (DataW Unit × List MemPlace) :=
  match v with
  | .pointer none => some (.nil, [])
  | .pointer (some ⟨b, 0, none⟩) => some (.lit (.int .i64 (b : Int)), [])
  | _ => none
theorem ptrR_at {v : Value} {k : Nat} {ps : List MemPlace} (h : ptrR v = some (.lit (.int .i64 (k : Int)), ps)) : v = .pointer (some ⟨k, 0, none⟩) := by
  unfold ptrR at h
  split at h
  · simp at h
  · simp only [Option.some.injEq, Prod.mk.injEq, DataW.lit.injEq, Lit.int.injEq, true_and] at h
    rw [show k = _ from Int.ofNat.inj h.1.symm]
  · cases h
theorem ptrR_nil {v : Value} {ps : List MemPlace} (h : ptrR v = some (.nil, ps)) : v = .pointer none := by
  unfold ptrR at h
  split at h
  · rfl
  · simp at h
  · cases h
def keyL (x : ByteArray) : Lit := .string x.data.toList
theorem keyL_inj {x y : ByteArray} (h : keyL x = keyL y) : x = y := by
  unfold keyL at h
  simp only [Lit.string.injEq] at h
  obtain ⟨⟨a⟩⟩ := x
  obtain ⟨⟨b⟩⟩ := y
  cases h
  rfl
theorem keyedS : Keyed Tryz.prog 9 := string_keyed Tryz.underlying9
theorem keyS {x : ByteArray} (h : x.size ≤ maxLen) : keyOf Tryz.prog 9 (.string x) = some (keyL x) := keyOf_string_mk Tryz.underlying9 h
theorem zeroF (w : World) : (zeroValue 115).run Tryz.prog w = .ok (.pointer none) w := by kernel_rfl
def upd {α : Type} (f : ByteArray → α) (x : ByteArray) (v : α) : ByteArray → α := fun y => if y = x then v else f y
theorem upd_at {α : Type} (f : ByteArray → α) (x : ByteArray) (v : α) : upd f x v x = v := if_pos rfl
theorem upd_ne {α : Type} {f : ByteArray → α} {x y : ByteArray} {v : α} (h : y ≠ x) : upd f x v y = f y := if_neg h

def MapAt (w : World) (mb : Nat) (names : List ByteArray) (φ : ByteArray → Nat) (n : Nat) : Prop :=
  ∃ D : DataW Unit, w.ownsMap Tryz.prog 9 ptrR mb n D ∧ ∀ x : ByteArray, x.size ≤ maxLen → has D (keyL x) = decide (x ∈ names) ∧ (x ∈ names → ∀ z, D.atKey (keyL x) z = .lit (.int .i64 (φ x : Int)))
theorem MapAt.same {w w' : World} {mb n : Nat} {names : List ByteArray} {φ : ByteArray → Nat} (h : MapAt w mb names φ n) (hs : w'.heap[mb]? = w.heap[mb]?) : MapAt w' mb names φ n := by
  obtain ⟨D, ⟨es, cl, h1, h2⟩, h3⟩ := h
  exact ⟨D, ⟨es, cl, hs.trans h1, h2⟩, h3⟩
theorem MapAt.block {w : World} {mb n : Nat} {names : List ByteArray} {φ : ByteArray → Nat} (h : MapAt w mb names φ n) : ∃ es cl, w.heap[mb]? = some (.map es cl) := by
  obtain ⟨D, ⟨es, cl, h1, h2⟩, h3⟩ := h
  exact ⟨es, cl, h1⟩
theorem MapAt.made (w : World) (φ : ByteArray → Nat) : MapAt (w.alloc (.map #[] 0)) w.heap.size [] φ 0 :=
  ⟨_, World.ownsMap_made w _ _ _, fun x _ => ⟨by simp [has], fun h => by cases h⟩⟩
theorem MapAt.congr {w : World} {mb n : Nat} {names names' : List ByteArray} {φ φ' : ByteArray → Nat} (h : MapAt w mb names φ n) (hn : ∀ x, x ∈ names' ↔ x ∈ names) (hf : ∀ x ∈ names, φ' x = φ x) : MapAt w mb names' φ' n := by
  obtain ⟨D, h1, h3⟩ := h
  refine ⟨D, h1, fun x hx => ⟨?_, fun hm z => ?_⟩⟩
  · rw [(h3 x hx).1]
    exact decide_eq_decide.2 (hn x).symm
  · rw [(h3 x hx).2 ((hn x).1 hm) z, hf x ((hn x).1 hm)]
def fileV (names : List ByteArray) (φ : ByteArray → Nat) (x : ByteArray) : Value := if x ∈ names then .pointer (some ⟨φ x, 0, none⟩) else .pointer none
theorem MapAt.look {w : World} {mb n : Nat} {names : List ByteArray} {φ : ByteArray → Nat} (h : MapAt w mb names φ n) {x : ByteArray} (hx : x.size ≤ maxLen) :
    (Instr.lookup 102 (.map (some mb)) (.string x) false).run Tryz.prog w = .ok (fileV names φ x) w := by
  obtain ⟨D, h1, h3⟩ := h
  obtain ⟨hh, ha⟩ := h3 x hx
  obtain ⟨v, ps, hrun, hv⟩ := h1.lookup (zd := .nil) (zp := []) keyedS Tryz.underlying102 (zeroF w) rfl (keyS hx)
  rw [hrun]
  unfold fileV
  by_cases hm : x ∈ names
  · rw [if_pos hm]
    rw [ha hm] at hv
    rw [ptrR_at hv]
  · rw [if_neg hm]
    rw [decide_eq_false hm] at hh
    rw [atKey_of_not_has hh] at hv
    rw [ptrR_nil hv]
theorem MapAt.look_yes {w : World} {mb n : Nat} {names : List ByteArray} {φ : ByteArray → Nat} (h : MapAt w mb names φ n) {x : ByteArray} (hx : x.size ≤ maxLen) (hm : x ∈ names) :
    (Instr.lookup 102 (.map (some mb)) (.string x) false).run Tryz.prog w = .ok (.pointer (some ⟨φ x, 0, none⟩)) w := by
  rw [h.look hx]; unfold fileV; rw [if_pos hm]
theorem MapAt.look_no {w : World} {mb n : Nat} {names : List ByteArray} {φ : ByteArray → Nat} (h : MapAt w mb names φ n) {x : ByteArray} (hx : x.size ≤ maxLen) (hm : x ∉ names) :
    (Instr.lookup 102 (.map (some mb)) (.string x) false).run Tryz.prog w = .ok (.pointer none) w := by
  rw [h.look hx]; unfold fileV; rw [if_neg hm]
theorem MapAt.store {w : World} {mb n : Nat} {names : List ByteArray} {φ : ByteArray → Nat} (h : MapAt w mb names φ n) (hn : n < maxLen) {x : ByteArray} (hx : x.size ≤ maxLen) (k : Nat) :
    ∃ w', (Instr.mapUpdate 102 (.map (some mb)) (.string x) (.pointer (some ⟨k, 0, none⟩))).run Tryz.prog w = .ok () w' ∧ MapAt w' mb (x :: names) (upd φ x k) (n + 1) ∧ w.grownBy w' (some mb) := by
  obtain ⟨D, h1, h3⟩ := h
  obtain ⟨w', hrun, ho, hg⟩ := h1.update (d := .lit (.int .i64 (k : Int))) (ps := []) keyedS Tryz.underlying102 hn (keyS hx) (val := .pointer (some ⟨k, 0, none⟩)) rfl
  refine ⟨w', hrun, ⟨_, ho, fun y hy => ?_⟩, hg⟩
  by_cases hyx : y = x
  · subst hyx
    refine ⟨?_, fun _ z => ?_⟩
    · rw [has_put_same h1.isMap (show WideAt.IsKeyLit (keyL y) from trivial)]; simp
    · rw [atKey_put_same h1.isMap (show WideAt.IsKeyLit (keyL y) from trivial), upd_at]
  · have hne : keyL y ≠ keyL x := fun e => hyx (keyL_inj e)
    refine ⟨?_, fun hm z => ?_⟩
    · rw [has_put_other hne, (h3 y hy).1]
      simp [hyx]
    · rw [atKey_put_other hne, (h3 y hy).2 ((List.mem_cons.1 hm).resolve_left hyx), upd_ne hyx]
theorem MapAt.drop {w : World} {mb n : Nat} {names names' : List ByteArray} {φ : ByteArray → Nat} (h : MapAt w mb names φ n) {x : ByteArray} (hx : x.size ≤ maxLen) (hs : ∀ y, y ∈ names' ↔ y ∈ names ∧ y ≠ x) (ty : TypeId) :
    ∃ w', (Builtin.delete_ #[102, 9] ty #[.map (some mb), .string x]).run Tryz.prog w = .ok (.tuple #[]) w' ∧ MapAt w' mb names' φ n ∧ w.grownBy w' (some mb) := by
  obtain ⟨D, h1, h3⟩ := h
  obtain ⟨w', hrun, ho, hg⟩ := h1.drop keyedS Tryz.underlying102 (keyS hx) ty
  refine ⟨w', hrun, ⟨_, ho, fun y hy => ?_⟩, hg.grown⟩
  by_cases hyx : y = x
  · subst hyx
    refine ⟨?_, fun hm => absurd rfl ((hs y).1 hm).2⟩
    rw [has_del_same]
    exact (decide_eq_false fun hm => ((hs y).1 hm).2 rfl).symm
  · have hne : keyL y ≠ keyL x := fun e => hyx (keyL_inj e)
    refine ⟨?_, fun hm z => ?_⟩
    · rw [has_del_other hne, (h3 y hy).1]
      exact decide_eq_decide.2 ⟨fun hm => (hs y).2 ⟨hm, hyx⟩, fun hm => ((hs y).1 hm).1⟩
    · rw [atKey_del_other hne, (h3 y hy).2 ((hs y).1 hm).1]

theorem keyL_of {D : DataW Unit} {w : World} {mb n : Nat} (h : w.ownsMap Tryz.prog 9 ptrR mb n D) : ∃ es, D = .map es ∧ es.Pairwise (fun p q => p.1 ≠ q.1) ∧ es.length ≤ n ∧ w.ownsMap Tryz.prog 9 ptrR mb es.length D ∧ ∀ p ∈ es, ∃ x : ByteArray, x.size ≤ maxLen ∧ p.1 = keyL x := by
  obtain ⟨es, e1, hk⟩ := h.keysOf
  obtain ⟨es', e2, hp⟩ := h.tidy keyedS
  obtain rfl : es = es' := by rw [e1] at e2; simpa using e2
  refine ⟨es, e1, hp, ?_, ?_, fun p hp => ?_⟩
  · have := h.size_le
    rw [e1] at this
    exact this
  · obtain ⟨a, cl, h1, h2, h3, h4⟩ := h
    refine ⟨a, cl, h1, h2, ?_, h4⟩
    rw [e1] at h4
    have := congrArg Maps.size h4
    rw [size_eq, size_eq, length_sorted, List.length_map] at this
    rw [this]
    exact Nat.le_of_eq (by simp)
  · obtain ⟨v, hv⟩ := hk p hp
    obtain ⟨x, _, hx, hl⟩ := Maps.keyOf_str Tryz.underlying9 hv
    exact ⟨⟨x.toArray⟩, by simpa [ByteArray.size] using hl, by rw [hx]; simp [keyL]⟩
theorem MapAt.keys {w : World} {mb n : Nat} {names : List ByteArray} {φ : ByteArray → Nat} (h : MapAt w mb names φ n) (hnd : names.Nodup) (hsz : ∀ x ∈ names, x.size ≤ maxLen) :
    ∃ D : DataW Unit, w.ownsMap Tryz.prog 9 ptrR mb names.length D ∧ (names.map fun x => x.data.toList).Perm (strKeys D) ∧ ∀ x : ByteArray, x.size ≤ maxLen → has D (keyL x) = decide (x ∈ names) ∧ (x ∈ names → ∀ z, D.atKey (keyL x) z = .lit (.int .i64 (φ x : Int))) := by
  obtain ⟨D, h1, h3⟩ := h
  obtain ⟨es, rfl, hp, hle, ho, hk⟩ := keyL_of h1
  have hperm : (names.map fun x => x.data.toList).Perm (strKeys (.map es)) := by
    refine perm_strKeys hp (fun p hp => by obtain ⟨x, _, e⟩ := hk p hp; exact ⟨_, e⟩) ?_ fun x => ?_
    · rw [List.nodup_iff_pairwise_ne, List.pairwise_map]
      rw [List.nodup_iff_pairwise_ne] at hnd
      refine hnd.imp fun {a b} hab e => hab (keyL_inj (by unfold keyL; rw [e]))
    · constructor
      · intro hx
        obtain ⟨y, hy, rfl⟩ := List.mem_map.1 hx
        have := (h3 y (hsz y hy)).1
        rw [decide_eq_true hy] at this
        exact this
      · intro hx
        rw [has_eq, List.any_eq_true] at hx
        obtain ⟨p, hpm, hs⟩ := hx
        obtain ⟨y, hy, e⟩ := hk p hpm
        rw [e] at hs
        have hyx : y.data.toList = x := by simpa [keyL, Lit.sameKey] using hs
        have h4 := (h3 y hy).1
        have h5 : has (.map es) (keyL y) = true := by
          rw [has_eq, List.any_eq_true]
          exact ⟨p, hpm, by rw [e]; simp [keyL, Lit.sameKey]⟩
        rw [h5] at h4
        exact List.mem_map.2 ⟨y, of_decide_eq_true h4.symm, hyx⟩
  refine ⟨.map es, ?_, hperm, h3⟩
  have := hperm.length_eq
  rw [List.length_map] at this
  show w.ownsMap _ _ _ mb names.length _
  rw [this]
  show w.ownsMap _ _ _ mb (es.map fun p => strOf p.1).length _
  rw [List.length_map]
  exact ho
theorem MapAt.norm {w : World} {mb n : Nat} {names : List ByteArray} {φ : ByteArray → Nat} (h : MapAt w mb names φ n) (hnd : names.Nodup) (hsz : ∀ x ∈ names, x.size ≤ maxLen) : MapAt w mb names φ names.length := by
  obtain ⟨D, h1, _, h3⟩ := h.keys hnd hsz
  exact ⟨D, h1, h3⟩

structure RD where
  names : List ByteArray
  bt : ByteArray → List Int
  su : ByteArray → Nat
  wr : List (ByteArray × Nat)
  mn : Nat
  pending : Int
  blocks : Int
  used : Int
  on : Bool
  ops : Int
  armed : Int
  keep : Int
def objV (mb : Nat) (vb : Value) (R : RD) : Array Value := #[.map (some mb), vb, .int .i64 R.pending, .int .i64 R.blocks, .int .i64 R.used, .bool R.on, .int .i64 R.ops, .int .i64 R.armed, .int .i64 R.keep]
def writeV (φ : ByteArray → Nat) (w : ByteArray × Nat) : List Value := [.pointer (some ⟨φ w.1, 0, none⟩), .int .i64 (w.2 : Nat)]
def writesV (φ : ByteArray → Nat) (l : List (ByteArray × Nat)) : List Value := (l.map (writeV φ)).flatten
theorem writesV_cons (φ : ByteArray → Nat) (w : ByteArray × Nat) (l : List (ByteArray × Nat)) : writesV φ (w :: l) = .pointer (some ⟨φ w.1, 0, none⟩) :: .int .i64 (w.2 : Nat) :: writesV φ l := rfl
theorem writesV_append (φ : ByteArray → Nat) (l m : List (ByteArray × Nat)) : writesV φ (l ++ m) = writesV φ l ++ writesV φ m := by simp [writesV]
theorem writesV_congr {φ φ' : ByteArray → Nat} : ∀ {l : List (ByteArray × Nat)}, (∀ w ∈ l, φ' w.1 = φ w.1) → writesV φ' l = writesV φ l
  | [], _ => rfl
  | w :: l, h => by rw [writesV_cons, writesV_cons, h w List.mem_cons_self, writesV_congr fun v hv => h v (List.mem_cons_of_mem _ hv)]
theorem writesV_file {φ : ByteArray → Nat} : ∀ {l : List (ByteArray × Nat)} {i : Nat}, i < l.length → (writesV φ l)[i * 2]? = some (.pointer (some ⟨φ (l.getD i default).1, 0, none⟩))
  | [], i, h => by cases h
  | w :: l, 0, _ => rfl
  | w :: l, i + 1, h => by
    rw [writesV_cons, show (i + 1) * 2 = i * 2 + 1 + 1 by omega, List.getElem?_cons_succ, List.getElem?_cons_succ, writesV_file (by simpa using h), List.getD_cons_succ]
theorem writesV_size {φ : ByteArray → Nat} : ∀ {l : List (ByteArray × Nat)} {i : Nat}, i < l.length → (writesV φ l)[i * 2 + 1]? = some (.int .i64 ((l.getD i default).2 : Nat))
  | [], i, h => by cases h
  | w :: l, 0, _ => rfl
  | w :: l, i + 1, h => by
    rw [writesV_cons, show (i + 1) * 2 + 1 = i * 2 + 1 + 1 + 1 by omega, List.getElem?_cons_succ, List.getElem?_cons_succ, writesV_size (by simpa using h), List.getD_cons_succ]

structure Lies8 (w : World) (d : Nat) (S : Nat → Prop) (φ : ByteArray → Nat) (σ : ByteArray → Value) (mb : Nat) (vb : Value) (R : RD) : Prop where
  obj : w.heap[d]? = some (.cells (objV mb vb R) 105 (0, 0))
  map : MapAt w mb R.names φ R.mn
  buf : w.ownsRow 0 117 2 vb R.wr.length (writesV φ R.wr)
  file : ∀ x ∈ R.names, w.heap[φ x]? = some (.cells #[σ x, .int .i64 (R.su x : Nat)] 122 (0, 0))
  row : ∀ x ∈ R.names, Owns w 0 5 (σ x) (R.bt x)
  inj : ∀ x ∈ R.names, ∀ y ∈ R.names, x ≠ y → φ x ≠ φ y
  apart : ∀ x ∈ R.names, ∀ y ∈ R.names, x ≠ y → ∀ g, (σ x).ownBlock = some g → (σ y).ownBlock ≠ some g
  mem : ∀ v ∈ R.wr, v.1 ∈ R.names
  sD : S d
  sM : S mb
  sB : ∀ g, vb.ownBlock = some g → S g
  sF : ∀ x ∈ R.names, S (φ x)
  sR : ∀ x ∈ R.names, ∀ g, (σ x).ownBlock = some g → S g

section
variable {w w' : World} {d : Nat} {S S' : Nat → Prop} {φ : ByteArray → Nat} {σ : ByteArray → Value} {mb : Nat} {vb : Value} {R : RD}
theorem Lies8.lt (h : Lies8 w d S φ σ mb vb R) : d < w.heap.size := (Array.getElem?_eq_some_iff.1 h.obj).1
theorem Lies8.ltM (h : Lies8 w d S φ σ mb vb R) : mb < w.heap.size := by
  obtain ⟨es, cl, hm⟩ := h.map.block
  exact (Array.getElem?_eq_some_iff.1 hm).1
theorem Lies8.ltF (h : Lies8 w d S φ σ mb vb R) {x : ByteArray} (hx : x ∈ R.names) : φ x < w.heap.size := (Array.getElem?_eq_some_iff.1 (h.file x hx)).1
theorem Lies8.ltR (h : Lies8 w d S φ σ mb vb R) {x : ByteArray} (hx : x ∈ R.names) {g : Nat} (hg : (σ x).ownBlock = some g) : g < w.heap.size := (World.ownsRow.lt (h.row x hx) g hg).2
theorem Lies8.ltB (h : Lies8 w d S φ σ mb vb R) {g : Nat} (hg : vb.ownBlock = some g) : g < w.heap.size := (World.ownsRow.lt h.buf g hg).2
theorem Lies8.mono (h : Lies8 w d S φ σ mb vb R) (hS : ∀ k, k < w.heap.size → S k → S' k) : Lies8 w d S' φ σ mb vb R :=
  ⟨h.obj, h.map, h.buf, h.file, h.row, h.inj, h.apart, h.mem, hS _ h.lt h.sD, hS _ h.ltM h.sM, fun g hg => hS g (h.ltB hg) (h.sB g hg), fun x hx => hS _ (h.ltF hx) (h.sF x hx), fun x hx g hg => hS g (h.ltR hx hg) (h.sR x hx g hg)⟩
theorem Lies8.same (h : Lies8 w d S φ σ mb vb R) (hs : ∀ k, k < w.heap.size → S k → w'.heap[k]? = w.heap[k]?) : Lies8 w' d S φ σ mb vb R where
  obj := (hs d h.lt h.sD).trans h.obj
  map := h.map.same (hs mb h.ltM h.sM)
  buf := row_same h.buf fun g hg => hs g (h.ltB hg) (h.sB g hg)
  file := fun x hx => (hs _ (h.ltF hx) (h.sF x hx)).trans (h.file x hx)
  row := fun x hx => row_same (h.row x hx) fun g hg => hs g (h.ltR hx hg) (h.sR x hx g hg)
  inj := h.inj
  apart := h.apart
  mem := h.mem
  sD := h.sD
  sM := h.sM
  sB := h.sB
  sF := h.sF
  sR := h.sR
theorem Lies8.below (h : Lies8 w d S φ σ mb vb R) (hb : Below w.heap.size w w') : Lies8 w' d S φ σ mb vb R := h.same fun k hk _ => hb.block k hk
theorem Lies8.drewN (h : Lies8 w d S φ σ mb vb R) (n : Nat) : Lies8 (w.drewN n) d S φ σ mb vb R := h.same fun _ _ _ => rfl
theorem cell_of {w : World} {k i : Nat} {c : Array Value} {t : TypeId} {v : Value} (h : w.heap[k]? = some (.cells c t (0, 0))) (hi : c[i]? = some v) : w.cell? ⟨k, i, none⟩ = some v := by
  unfold World.cell?; dsimp only; rw [h]; exact hi
theorem froz_of {w : World} {k i : Nat} {c : Array Value} {t : TypeId} (h : w.heap[k]? = some (.cells c t (0, 0))) : w.frozen? ⟨k, i, none⟩ = false := by
  simp [World.frozen?, h]
theorem Lies8.cells (h : Lies8 w d S φ σ mb vb R) : w.cell? ⟨d, 0, none⟩ = some (.map (some mb)) ∧ w.cell? ⟨d, 1, none⟩ = some vb ∧ w.cell? ⟨d, 2, none⟩ = some (.int .i64 R.pending) ∧ w.cell? ⟨d, 3, none⟩ = some (.int .i64 R.blocks) ∧ w.cell? ⟨d, 4, none⟩ = some (.int .i64 R.used) ∧
    w.cell? ⟨d, 5, none⟩ = some (.bool R.on) ∧ w.cell? ⟨d, 6, none⟩ = some (.int .i64 R.ops) ∧ w.cell? ⟨d, 7, none⟩ = some (.int .i64 R.armed) ∧ w.cell? ⟨d, 8, none⟩ = some (.int .i64 R.keep) ∧ ∀ i, w.frozen? ⟨d, i, none⟩ = false :=
  ⟨cell_of h.obj rfl, cell_of h.obj rfl, cell_of h.obj rfl, cell_of h.obj rfl, cell_of h.obj rfl, cell_of h.obj rfl, cell_of h.obj rfl, cell_of h.obj rfl, cell_of h.obj rfl, fun _ => froz_of h.obj⟩
theorem Lies8.fcells (h : Lies8 w d S φ σ mb vb R) {x : ByteArray} (hx : x ∈ R.names) : w.cell? ⟨φ x, 0, none⟩ = some (σ x) ∧ w.cell? ⟨φ x, 1, none⟩ = some (.int .i64 (R.su x : Nat)) ∧ ∀ i, w.frozen? ⟨φ x, i, none⟩ = false :=
  ⟨cell_of (h.file x hx) rfl, cell_of (h.file x hx) rfl, fun _ => froz_of (h.file x hx)⟩
theorem Lies8.dM (h : Lies8 w d S φ σ mb vb R) : mb ≠ d := by
  obtain ⟨es, cl, hm⟩ := h.map.block
  rintro rfl
  rw [h.obj] at hm
  cases hm
theorem Lies8.dF (h : Lies8 w d S φ σ mb vb R) {x : ByteArray} (hx : x ∈ R.names) : φ x ≠ d := by
  intro e
  have := h.file x hx
  rw [e, h.obj] at this
  simp only [Option.some.injEq, Obj.cells.injEq] at this
  exact absurd this.2.1 (by decide)
theorem Lies8.mF (h : Lies8 w d S φ σ mb vb R) {x : ByteArray} (hx : x ∈ R.names) : φ x ≠ mb := by
  intro e
  obtain ⟨es, cl, hm⟩ := h.map.block
  have := h.file x hx
  rw [e, hm] at this
  cases this
theorem Lies8.dR (h : Lies8 w d S φ σ mb vb R) {x : ByteArray} (hx : x ∈ R.names) : (σ x).ownBlock ≠ some d := row_apart (h.row x hx) h.obj (by decide)
theorem Lies8.mR (h : Lies8 w d S φ σ mb vb R) {x : ByteArray} (hx : x ∈ R.names) : (σ x).ownBlock ≠ some mb := by
  obtain ⟨es, cl, hm⟩ := h.map.block
  exact row_map (h.row x hx) hm
theorem Lies8.fR (h : Lies8 w d S φ σ mb vb R) {x y : ByteArray} (hx : x ∈ R.names) (hy : y ∈ R.names) : (σ x).ownBlock ≠ some (φ y) := row_apart (h.row x hx) (h.file y hy) (by decide)
theorem Lies8.dB (h : Lies8 w d S φ σ mb vb R) : vb.ownBlock ≠ some d := row_apart h.buf h.obj (by decide)
theorem Lies8.mB (h : Lies8 w d S φ σ mb vb R) : vb.ownBlock ≠ some mb := by
  obtain ⟨es, cl, hm⟩ := h.map.block
  exact row_map h.buf hm
theorem Lies8.fB (h : Lies8 w d S φ σ mb vb R) {x : ByteArray} (hx : x ∈ R.names) : vb.ownBlock ≠ some (φ x) := row_apart h.buf (h.file x hx) (by decide)
theorem Lies8.rB (h : Lies8 w d S φ σ mb vb R) {x : ByteArray} (hx : x ∈ R.names) {g : Nat} (hg : (σ x).ownBlock = some g) : vb.ownBlock ≠ some g := rowsQ_apart (h.row x hx) h.buf (by decide) hg

theorem heap_set_same {w : World} {k i : Nat} {c : Array Value} {t : TypeId} {v : Value} (h : w.heap[k]? = some (.cells c t (0, 0))) : (w.setCell ⟨k, i, none⟩ v).heap[k]? = some (.cells (c.setIfInBounds i v) t (0, 0)) := by
  simp [World.setCell, Array.getElem?_modify, h]
theorem heap_set_other {w : World} {k i j : Nat} {v : Value} (h : j ≠ k) : (w.setCell ⟨k, i, none⟩ v).heap[j]? = w.heap[j]? := Below.heap_setCell _ _ _ _ (fun e => h e)

theorem Lies8.setD (h : Lies8 w d S φ σ mb vb R) (i : Nat) (v : Value) (R' : RD) (e : objV mb vb R' = (objV mb vb R).setIfInBounds i v) (e1 : R'.names = R.names) (e2 : R'.bt = R.bt) (e3 : R'.su = R.su) (e4 : R'.wr = R.wr) (e5 : R'.mn = R.mn) :
    Lies8 (w.setCell ⟨d, i, none⟩ v) d S φ σ mb vb R' := by
  refine ⟨?_, ?_, ?_, ?_, ?_, ?_, ?_, ?_, h.sD, h.sM, h.sB, ?_, ?_⟩ <;> (try rw [e1]) <;> (try rw [e4])
  · rw [heap_set_same h.obj, e]
  · rw [e5]; exact h.map.same (heap_set_other h.dM)
  · exact row_same h.buf fun g hg => heap_set_other fun e => h.dB (e ▸ hg)
  · intro x hx; rw [e3]; exact (heap_set_other (h.dF hx)).trans (h.file x hx)
  · intro x hx; rw [e2]; exact row_same (h.row x hx) fun g hg => heap_set_other fun e => h.dR hx (e ▸ hg)
  · exact h.inj
  · exact h.apart
  · exact h.mem
  · exact h.sF
  · exact h.sR
theorem Lies8.setS (h : Lies8 w d S φ σ mb vb R) {x : ByteArray} (hx : x ∈ R.names) (s : Nat) : Lies8 (w.setCell ⟨φ x, 1, none⟩ (.int .i64 (s : Nat))) d S φ σ mb vb { R with su := upd R.su x s } := by
  refine ⟨(heap_set_other (Ne.symm (h.dF hx))).trans h.obj, h.map.same (heap_set_other (Ne.symm (h.mF hx))), row_same h.buf fun g hg => heap_set_other fun e => h.fB hx (e ▸ hg), fun y hy => ?_, fun y hy => row_same (h.row y hy) fun g hg => heap_set_other fun e => h.fR hy hx (e ▸ hg), h.inj, h.apart, h.mem, h.sD, h.sM, h.sB, h.sF, h.sR⟩
  by_cases hyx : y = x
  · subst hyx
    rw [heap_set_same (h.file y hy)]
    simp [upd_at]
  · rw [heap_set_other (h.inj y hy x hx hyx), h.file y hy]
    show _ = some (Obj.cells #[σ y, .int .i64 (upd R.su x s y : Nat)] _ _)
    rw [upd_ne hyx]
theorem Lies8.setR (h : Lies8 w d S φ σ mb vb R) {x : ByteArray} (hx : x ∈ R.names) {v' : Value} {xs : List Int} (hg : w.grownBy w' (σ x).ownBlock) (ho : Owns w' 0 5 v' xs) (hw : v'.ownBlock = (σ x).ownBlock ∨ ∃ k, v'.ownBlock = some k ∧ w.heap.size ≤ k)
    (hS : ∀ k, w.heap.size ≤ k → S k) : Lies8 (w'.setCell ⟨φ x, 0, none⟩ v') d S φ (upd σ x v') mb vb { R with bt := upd R.bt x xs } := by
  have hf : w'.heap[φ x]? = some (.cells #[σ x, .int .i64 (R.su x : Nat)] 122 (0, 0)) := (hg.block _ (h.ltF hx) fun e => h.fR hx hx e.symm).trans (h.file x hx)
  refine ⟨?_, ?_, ?_, ?_, ?_, h.inj, ?_, h.mem, h.sD, h.sM, h.sB, h.sF, ?_⟩
  · exact (heap_set_other (Ne.symm (h.dF hx))).trans ((hg.block _ h.lt fun e => h.dR hx e.symm).trans h.obj)
  · exact h.map.same ((heap_set_other (Ne.symm (h.mF hx))).trans (hg.block _ h.ltM fun e => h.mR hx e.symm))
  · refine row_same h.buf fun g hgb => (heap_set_other (k := φ x) fun e => h.fB hx (by rw [hgb, e])).trans (hg.block g (h.ltB hgb) fun e => h.rB hx e.symm hgb)
  · intro y hy
    by_cases hyx : y = x
    · subst hyx
      rw [heap_set_same hf]
      simp [upd_at]
    · rw [heap_set_other (h.inj y hy x hx hyx), hg.block _ (h.ltF hy) (fun e => h.fR hx hy e.symm), h.file y hy, upd_ne hyx]
  · intro y hy
    show Owns _ 0 _ (upd σ x v' y) (upd R.bt x xs y)
    by_cases hyx : y = x
    · subst hyx
      rw [upd_at, upd_at]
      exact row_same ho fun g hgb => heap_set_other fun e => row_apart ho hf (by decide) (e ▸ hgb)
    · rw [upd_ne hyx, upd_ne hyx]
      exact row_same (h.row y hy) fun g hgb => (heap_set_other (k := φ x) fun e => h.fR hy hx (by rw [hgb, e])).trans (hg.block g (h.ltR hy hgb) fun e => h.apart x hx y hy (Ne.symm hyx) g e.symm hgb)
  · intro y hy z hz hyz g h1 h2
    have key : ∀ u ∈ R.names, u ≠ x → v'.ownBlock = some g → (σ u).ownBlock ≠ some g := by
      intro u hu hux e1 e2
      rcases hw with e | ⟨k, e, hk⟩
      · rw [e] at e1; exact h.apart x hx u hu (Ne.symm hux) g e1 e2
      · rw [e] at e1
        have := h.ltR hu e2
        cases e1
        omega
    by_cases hyx : y = x
    · subst hyx
      rw [upd_at] at h1
      rw [upd_ne (Ne.symm hyz)] at h2
      exact key z hz (Ne.symm hyz) h1 h2
    · rw [upd_ne hyx] at h1
      by_cases hzx : z = x
      · subst hzx
        rw [upd_at] at h2
        exact key y hy hyx h2 h1
      · rw [upd_ne hzx] at h2
        exact h.apart y hy z hz hyz g h1 h2
  · intro y hy g h1
    by_cases hyx : y = x
    · subst hyx
      rw [upd_at] at h1
      rcases hw with e | ⟨k, e, hk⟩
      · rw [e] at h1; exact h.sR y hy g h1
      · rw [e] at h1
        cases h1
        exact hS _ hk
    · rw [upd_ne hyx] at h1
      exact h.sR y hy g h1
theorem Lies8.setB (h : Lies8 w d S φ σ mb vb R) {v' : Value} {l : List (ByteArray × Nat)} (hg : w.grownBy w' vb.ownBlock) (ho : w'.ownsRow 0 117 2 v' l.length (writesV φ l)) (hl : ∀ v ∈ l, v.1 ∈ R.names) (hw : v'.ownBlock = vb.ownBlock ∨ (∀ k, v'.ownBlock = some k → w.heap.size ≤ k))
    (hS : ∀ k, w.heap.size ≤ k → S k) : Lies8 (w'.setCell ⟨d, 1, none⟩ v') d S φ σ mb v' { R with wr := l } := by
  have hd : w'.heap[d]? = some (.cells (objV mb vb R) 105 (0, 0)) := (hg.block _ h.lt fun e => h.dB e.symm).trans h.obj
  refine ⟨?_, ?_, ?_, ?_, ?_, h.inj, h.apart, hl, h.sD, h.sM, ?_, h.sF, h.sR⟩
  · rw [heap_set_same hd]; rfl
  · exact h.map.same ((heap_set_other h.dM).trans (hg.block _ h.ltM fun e => h.mB e.symm))
  · exact row_same ho fun g hgb => heap_set_other fun e => row_apart ho hd (by decide) (e ▸ hgb)
  · intro x hx
    exact (heap_set_other (h.dF hx)).trans ((hg.block _ (h.ltF hx) fun e => h.fB hx e.symm).trans (h.file x hx))
  · intro x hx
    exact row_same (h.row x hx) fun g hgb => (heap_set_other (k := d) fun e => h.dR hx (by rw [hgb, e])).trans (hg.block g (h.ltR hx hgb) fun e => h.rB hx hgb e.symm)
  · intro g h1
    rcases hw with e | hk
    · rw [e] at h1; exact h.sB g h1
    · exact hS _ (hk g h1)
theorem Lies8.dropM (h : Lies8 w d S φ σ mb vb R) {names' : List ByteArray} (hm : MapAt w' mb names' φ R.mn) (hg : w.grownBy w' (some mb)) (hs : ∀ y, y ∈ names' → y ∈ R.names) (hl : ∀ v ∈ R.wr, v.1 ∈ names') : Lies8 w' d S φ σ mb vb { R with names := names' } := by
  refine ⟨(hg.block d h.lt fun e => h.dM (Option.some.inj e).symm).trans h.obj, hm, row_same h.buf fun g hgb => hg.block g (h.ltB hgb) fun e => h.mB (by rw [hgb, e]), fun x hx => (hg.block _ (h.ltF (hs x hx)) fun e => h.mF (hs x hx) (Option.some.inj e)).trans (h.file x (hs x hx)),
    fun x hx => row_same (h.row x (hs x hx)) fun g hgb => hg.block g (h.ltR (hs x hx) hgb) fun e => h.mR (hs x hx) (by rw [hgb, e]), fun x hx y hy => h.inj x (hs x hx) y (hs y hy), fun x hx y hy => h.apart x (hs x hx) y (hs y hy), hl, h.sD, h.sM, h.sB, fun x hx => h.sF x (hs x hx), fun x hx => h.sR x (hs x hx)⟩
end
end Go.Proofs.YthlelcmifolnfaaGreatDoor

namespace Go.Proofs.YthlelcmifolnfaaGreatDoor
open Go.RowKit Go.Maps
theorem letter_any (c : Nat) (w : World) : Calls Tryz.prog 131 #[.int .u8 (c : Nat)] w fun e w' => e = .returned (.bool (letN c)) ∧ w' = w := by
  unfold letN
  by_cases h1 : 97 ≤ c
  · have h1' : (97 : Int) ≤ c := by omega
    go_enter Tryz.func131, Tryz.ntmps131
    go_wp2
    go_ret
    refine ⟨?_, rfl⟩
    rw [decide_eq_true h1, Bool.true_and]
    exact congrArg (fun b => Ending.returned (.bool b)) (decide_eq_decide.2 (by omega))
  · have h1' : (c : Int) < 97 := by omega
    go_enter Tryz.func131, Tryz.ntmps131
    go_wp2
    go_ret
    exact ⟨rfl, rfl⟩
theorem digit_any (c : Nat) (w : World) : Calls Tryz.prog 132 #[.int .u8 (c : Nat)] w fun e w' => e = .returned (.bool (digN c)) ∧ w' = w := by
  unfold digN
  by_cases h1 : 48 ≤ c
  · have h1' : (48 : Int) ≤ c := by omega
    go_enter Tryz.func132, Tryz.ntmps132
    go_wp2
    go_ret
    refine ⟨?_, rfl⟩
    rw [decide_eq_true h1, Bool.true_and]
    exact congrArg (fun b => Ending.returned (.bool b)) (decide_eq_decide.2 (by omega))
  · have h1' : (c : Int) < 48 := by omega
    go_enter Tryz.func132, Tryz.ntmps132
    go_wp2
    go_ret
    exact ⟨rfl, rfl⟩
theorem need_any (n : Nat) (w : World) (hn : n ≤ 140737488355328) : Calls Tryz.prog 94 #[.int .i64 (n : Nat)] w fun e w' => e = .returned (.int .i64 (need n : Nat)) ∧ w' = w := by
  go_enter Tryz.func94, Tryz.ntmps94
  go_wp2
  go_ret
  refine ⟨?_, rfl⟩
  unfold need
  exact congrArg (fun b => Ending.returned (.int .i64 b)) (by omega)
theorem blocks_any (k : Nat) (p : Option Addr) (n c : Nat) (w : World) (h : w.cell? ⟨k, 0, none⟩ = some (.slice p n c)) (hn : n ≤ 140737488355328) : Calls Tryz.prog 88 #[.pointer (some ⟨k, 0, none⟩)] w fun e w' => e = .returned (.int .i64 (need n : Nat)) ∧ w' = w := by
  go_enter Tryz.func88, Tryz.ntmps88
  go_wp2_with fail
  refine same_mono (need_any n _ hn) ?_
  go_wp2
  go_ret
  exact ⟨rfl, rfl⟩
theorem equal_map_nil {P : Program} (d : Nat) (t : TypeId) {k e : TypeId} (m : Option Nat) (W : World) (h : P.underlying t = some (.map k e)) : (Op.equalIn (d + 1) t (.map m) (.map none)).run P W = .ok m.isNone W := by
  cases m <;> simp [Op.equalIn, run_underlying h]
theorem map_nil8 (m : Option Nat) (W : World) : (binOp .neq 102 (.map m) (.map none)).run Tryz.prog W = .ok (.bool m.isSome) W := by
  simp [binOp, go_sem]
  show ((Op.equalIn (9999 + 1) 102 (.map m) (.map none)).run Tryz.prog W).andThen _ = _
  rw [equal_map_nil 9999 _ m W Tryz.underlying102]
  cases m <;> rfl
theorem made_any8 (d : Nat) (m : Option Nat) (w : World) (h : w.cell? ⟨d, 0, none⟩ = some (.map m)) : Calls Tryz.prog 78 #[.pointer (some ⟨d, 0, none⟩)] w fun e w' => e = .returned (.bool m.isSome) ∧ w' = w := by
  have hm := map_nil8 m
  go_enter Tryz.func78, Tryz.ntmps78
  go_wp2
  go_ret
  exact ⟨rfl, rfl⟩
section
variable {w : World} {d : Nat} {S : Nat → Prop} {φ : ByteArray → Nat} {σ : ByteArray → Value} {mb : Nat} {vb : Value} {R : RD}
def readyN (on : Bool) : Nat := if on = true then 0 else 9
theorem ready_any (h : Lies8 w d S φ σ mb vb R) : Calls Tryz.prog 77 #[.pointer (some ⟨d, 0, none⟩)] w fun e w' => e = .returned (.int .i64 (readyN R.on : Nat)) ∧ w' = w := by
  obtain ⟨c0, -, -, -, -, c5, -⟩ := h.cells
  unfold readyN
  cases ho : R.on with
  | true =>
    rw [ho] at c5
    go_enter Tryz.func77, Tryz.ntmps77
    go_wp2_with fail
    refine same_mono (made_any8 d _ w c0) ?_
    go_wp2
    go_ret
    exact ⟨rfl, rfl⟩
  | false =>
    rw [ho] at c5
    go_enter Tryz.func77, Tryz.ntmps77
    go_wp2_with fail
    refine same_mono (made_any8 d _ w c0) ?_
    go_wp2
    go_ret
    exact ⟨rfl, rfl⟩
theorem find_yes (h : Lies8 w d S φ σ mb vb R) {x : ByteArray} (hs : x.size ≤ maxLen) (ho : R.on = true) (hx : x ∈ R.names) :
    Calls Tryz.prog 82 #[.pointer (some ⟨d, 0, none⟩), .string x] w fun e w' => e = .returned (.tuple #[.pointer (some ⟨φ x, 0, none⟩), .int .i64 0]) ∧ w' = w := by
  obtain ⟨c0, -⟩ := h.cells
  have hr := ready_any h
  rw [ho] at hr
  have hl := h.map.look_yes hs hx
  go_enter Tryz.func82, Tryz.ntmps82
  go_wp2_with fail
  refine same_mono hr ?_
  unfold readyN
  go_wp2
  go_ret2
  exact ⟨rfl, rfl⟩
theorem find_none8 (h : Lies8 w d S φ σ mb vb R) {x : ByteArray} (hs : x.size ≤ maxLen) (ho : R.on = true) (hx : x ∉ R.names) :
    Calls Tryz.prog 82 #[.pointer (some ⟨d, 0, none⟩), .string x] w fun e w' => e = .returned (.tuple #[.pointer none, .int .i64 4]) ∧ w' = w := by
  obtain ⟨c0, -⟩ := h.cells
  have hr := ready_any h
  rw [ho] at hr
  have hl := h.map.look_no hs hx
  go_enter Tryz.func82, Tryz.ntmps82
  go_wp2_with fail
  refine same_mono hr ?_
  unfold readyN
  go_wp2
  go_ret2
  exact ⟨rfl, rfl⟩
theorem find_off8 (h : Lies8 w d S φ σ mb vb R) (x : ByteArray) (ho : R.on = false) :
    Calls Tryz.prog 82 #[.pointer (some ⟨d, 0, none⟩), .string x] w fun e w' => e = .returned (.tuple #[.pointer none, .int .i64 9]) ∧ w' = w := by
  have hr := ready_any h
  rw [ho] at hr
  go_enter Tryz.func82, Tryz.ntmps82
  go_wp2_with fail
  refine same_mono hr ?_
  unfold readyN
  go_wp2
  go_ret2
  exact ⟨rfl, rfl⟩
end

theorem take_snoc8 (s : ByteArray) (k : Nat) (h : k < s.size) : s.data.toList.take (k + 1) = s.data.toList.take k ++ [s[k]] := by
  rw [List.take_succ_eq_append_getElem (by simpa using h)]; rfl
set_option maxRecDepth 10000 in
set_option maxHeartbeats 1000000 in
theorem good_dk (x : ByteArray) (hs : x.size ≤ maxLen) (w : World) : Calls Tryz.prog 85 #[.string x] w fun e w' => e = .returned (.bool (goodN x)) ∧ w' = w := by
  unfold maxLen at hs
  by_cases h0 : x.size = 0
  · have hg : goodN x = false := by unfold goodN; rw [h0]; rfl
    rw [hg]
    go_enter Tryz.func85, Tryz.ntmps85
    go_wp2
    go_ret
    exact ⟨rfl, rfl⟩
  by_cases h24 : 24 < x.size
  · have hg : goodN x = false := by unfold goodN; rw [decide_eq_false (by omega : ¬ x.size ≤ 24)]; simp
    rw [hg]
    go_enter Tryz.func85, Tryz.ntmps85
    go_wp2
    go_ret
    exact ⟨rfl, rfl⟩
  have hp : 0 < x.size := by omega
  have he : goodN x = (letN x[0].toNat && x.data.toList.all fun c => chN c.toNat) := by
    unfold goodN
    rw [decide_eq_true (by omega : 1 ≤ x.size), decide_eq_true (by omega : x.size ≤ 24)]
    simp [List.getD_eq_getElem?_getD, List.getElem?_eq_getElem (by simpa using hp : 0 < x.data.toList.length)]
    rfl
  cases hlet : letN x[0].toNat with
  | false =>
    rw [hlet, Bool.false_and] at he
    rw [he]
    go_enter Tryz.func85, Tryz.ntmps85
    go_wp2_with fail
    refine same_mono (letter_any _ _) ?_
    rw [hlet]
    go_wp2
    go_ret
    exact ⟨rfl, rfl⟩
  | true =>
    rw [hlet, Bool.true_and] at he
    have he' : Hid (goodN x = x.data.toList.all fun c => chN c.toNat) := he
    clear he
    go_enter Tryz.func85, Tryz.ntmps85
    go_wp2_with fail
    refine same_mono (letter_any _ _) ?_
    rw [hlet]
    clear hlet
    have h0' : ((x.size : Int) == 0) = false := by rw [beq_eq_false_iff_ne]; omega
    have h24' : (x.size : Int) ≤ 24 := by omega
    go_wp2
    go_loop [21] (fun i => ∃ k : Nat, k ≤ x.size ∧ i = .int .i64 k ∧ Hid (((x.data.toList.take k).all fun c => chN c.toNat) = true)) (fun i => x.size - (intOf i).toNat)
    case atStart => exact ⟨0, Nat.zero_le _, rfl, rfl⟩
    case round =>
      obtain ⟨k, hk, rfl, ha⟩ := hrel
      by_cases hlt : k < x.size
      · have HS : Hid (((x.data.toList.take (k + 1)).all fun c => chN c.toNat) = chN x[k].toNat) := by
          show _ = _
          rw [take_snoc8 x k hlt, List.all_append, ha.out]
          simp
        have HF : Hid (chN x[k].toNat = false → goodN x = false) := by
          intro hc
          rw [he'.out, ← List.take_append_drop (k + 1) x.data.toList, List.all_append, HS.out, hc, Bool.false_and]
        have hc8 : x[k].toNat < 256 := x[k].toBitVec.isLt
        clear he'
        generalize hxc : x[k].toNat = c at *
        by_cases hc : chN c = true
        · have HS' := HS.out.trans hc
          have Hc : Hid ((letN c || digN c || c == 46 || c == 45) = true) := hc
          clear HS HF hc
          have hd := digit_any c w
          have hl := letter_any c w
          cases h1 : letN c with
          | true =>
            rw [h1] at hl
            go_wp2_with fail
            refine same_mono hl ?_
            go_wp2
            go_round
            case rel => exact ⟨k + 1, by omega, by go_num, HS'⟩
            case measure => simp only [intOf]; omega
          | false =>
            rw [h1] at hl
            cases h2 : digN c with
            | true =>
              rw [h2] at hd
              go_wp2_with fail
              refine same_mono hl ?_
              go_wp2_with fail
              refine same_mono hd ?_
              go_wp2
              go_round
              case rel => exact ⟨k + 1, by omega, by go_num, HS'⟩
              case measure => simp only [intOf]; omega
            | false =>
              rw [h2] at hd
              by_cases h3 : c = 46
              · subst h3
                go_wp2_with fail
                refine same_mono hl ?_
                go_wp2_with fail
                refine same_mono hd ?_
                go_wp2
                go_round
                case rel => exact ⟨k + 1, by omega, by go_num, HS'⟩
                case measure => simp only [intOf]; omega
              · have h4 : c = 45 := by have := Hc.out; rw [h1, h2] at this; simpa [h3] using this
                subst h4
                go_wp2_with fail
                refine same_mono hl ?_
                go_wp2_with fail
                refine same_mono hd ?_
                go_wp2
                go_round
                case rel => exact ⟨k + 1, by omega, by go_num, HS'⟩
                case measure => simp only [intOf]; omega
        · have hg := HF.out (by simpa using hc)
          have Hc : (letN c || digN c || c == 46 || c == 45) = false := by simpa [chN] using hc
          clear HS HF hc
          have hd := digit_any c w
          have hl := letter_any c w
          simp only [Bool.or_eq_false_iff, beq_eq_false_iff_ne] at Hc
          obtain ⟨⟨⟨h1, h2⟩, h3⟩, h4⟩ := Hc
          rw [h1] at hl
          rw [h2] at hd
          have h3' : ((c : Int) != 46) = true := bne_iff_ne.2 (by omega)
          have h4' : ((c : Int) != 45) = true := bne_iff_ne.2 (by omega)
          have Hg : Hid (goodN x = false) := hg
          clear hg
          go_wp2_with fail
          refine same_mono hl ?_
          go_wp2_with fail
          refine same_mono hd ?_
          go_wp2
          go_ret
          refine ⟨?_, rfl⟩
          rw [Hg.out]
          rfl
      · have hkn : k = x.size := by omega
        have hg : goodN x = true := by
          rw [he'.out, ← List.take_of_length_le (l := x.data.toList) (i := k) (by rw [hkn]; exact Nat.le_refl _)]
          exact ha.out
        have Hg : Hid (goodN x = true) := hg
        clear ha he' hg
        go_wp2
        go_ret
        refine ⟨?_, rfl⟩
        rw [Hg.out]
        rfl
end Go.Proofs.YthlelcmifolnfaaGreatDoor
