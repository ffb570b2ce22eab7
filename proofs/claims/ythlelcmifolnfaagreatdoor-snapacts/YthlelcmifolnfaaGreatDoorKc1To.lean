import Derived.Test.YthlelcmifolnfaaGreatDoorKa2To
import Derived.Test.YthlelcmifolnfaaGreatDoorDs1To
import Derived.Test.YthlelcmifolnfaaGreatDoorRnz
import Derived.Test.YthlelcmifolnfaaGreatDoorHRowETo
import Derived.Test.YthlelcmifolnfaaGreatDoorWaXTo
namespace Go.Proofs.YthlelcmifolnfaaGreatDoor
open Go.RowKit
def app12 (x : ByteArray) : DM → List (List Int) → Nat × DM
  | M, [] => (0, M)
  | M, b :: l => if (M.append x b).1 = 0 then app12 x (M.append x b).2 l else M.append x b
def drop12 (n : Int) : DM → List Int → Nat × DM
  | M, [] => (0, M)
  | M, a :: l => if a < n then (if (M.remove (nameB12 a)).1 = 9 then (9, (M.remove (nameB12 a)).2) else drop12 n (M.remove (nameB12 a)).2 l) else drop12 n M l
def sav1 (M : DM) : Nat × DM := M.create newB12
def sav2 (M : DM) (s : Snap10) : Nat × DM := if (sav1 M).1 = 0 then app12 newB12 (sav1 M).2 (chunks12 s) else sav1 M
def sav3 (M : DM) (s : Snap10) : Nat × DM := if (sav2 M s).1 = 0 then (sav2 M s).2.syncs else sav2 M s
def sav4 (M : DM) (s : Snap10) : Nat × DM := if (sav3 M s).1 = 0 then (sav3 M s).2.rename newB12 (nameB12 s.i) else sav3 M s
def sav5 (M : DM) (s : Snap10) : Nat × DM := if (sav4 M s).1 = 0 then drop12 s.i (sav4 M s).2 (files12 (sav4 M s).2.listT).reverse else sav4 M s
def save12 (M : DM) (s : Snap10) : Nat × DM := if M.off = true then (9, M) else if goodS10 s = true ∧ s.i ≤ 999999999 then sav5 M s else (2, M)
def find12 (M : DM) : List Int → Option Snap10
  | [] => none
  | n :: l => if (join12 (M.readB (nameB12 n))).2 = 0 ∧ (join12 (M.readB (nameB12 n))).1.i = n then some (join12 (M.readB (nameB12 n))).1 else find12 M l
def load12 (M : DM) : Option Snap10 := find12 M (files12 M.listT).reverse

theorem app_app (x : ByteArray) : ∀ (l m : List (List Int)) (M : DM), app12 x M (l ++ m) = if (app12 x M l).1 = 0 then app12 x (app12 x M l).2 m else app12 x M l
  | [], m, M => by rw [List.nil_append]; exact (if_pos rfl).symm
  | b :: l, m, M => by
    rw [List.cons_append, app12, app12]
    split
    · exact app_app x l m _
    · rfl
theorem app_one (x : ByteArray) (M : DM) (b : List Int) : app12 x M [b] = M.append x b := by
  unfold app12
  split
  · rename_i h
    show (0, (M.append x b).2) = _
    rw [← h]
  · rfl
theorem drop12_cons (n a : Int) (l : List Int) (M : DM) : drop12 n M (a :: l) = if a < n then (if (M.remove (nameB12 a)).1 = 9 then (9, (M.remove (nameB12 a)).2) else drop12 n (M.remove (nameB12 a)).2 l) else drop12 n M l := rfl
theorem drop12_app (n : Int) : ∀ (l m : List Int) (M : DM), drop12 n M (l ++ m) = if (drop12 n M l).1 = 9 then drop12 n M l else drop12 n (drop12 n M l).2 m
  | [], m, M => by rw [List.nil_append]; exact (if_neg (by show ¬ (0 = 9); decide)).symm
  | a :: l, m, M => by
    rw [List.cons_append, drop12_cons n a (l ++ m) M, drop12_cons n a l M]
    split
    · split
      · rw [if_pos rfl]
      · exact drop12_app n l m _
    · exact drop12_app n l m M
theorem drop12_one (n a : Int) (M : DM) : drop12 n M [a] = if a < n then (if (M.remove (nameB12 a)).1 = 9 then (9, (M.remove (nameB12 a)).2) else (0, (M.remove (nameB12 a)).2)) else (0, M) := by
  rw [drop12_cons]
  rfl
theorem find12_cons (M : DM) (n : Int) (l : List Int) : find12 M (n :: l) = if (join12 (M.readB (nameB12 n))).2 = 0 ∧ (join12 (M.readB (nameB12 n))).1.i = n then some (join12 (M.readB (nameB12 n))).1 else find12 M l := rfl
theorem find12_app (M : DM) (l m : List Int) (h : find12 M l = none) : find12 M (l ++ m) = find12 M m := by
  induction l with
  | nil => rw [List.nil_append]
  | cons n l ih =>
    rw [find12_cons] at h
    rw [List.cons_append, find12_cons]
    by_cases hc : (join12 (M.readB (nameB12 n))).2 = 0 ∧ (join12 (M.readB (nameB12 n))).1.i = n
    · rw [if_pos hc] at h
      cases h
    · rw [if_neg hc] at h
      rw [if_neg hc]
      exact ih h
end Go.Proofs.YthlelcmifolnfaaGreatDoor

namespace Go.Proofs.YthlelcmifolnfaaGreatDoor
open Go.RowKit Go.Maps
structure DiskT (w0 wb w : World) (d : Nat) (S T : Nat → Prop) (M : DM) : Prop where
  lo : w0.heap.size ≤ wb.heap.size
  ex : ∃ S', Disk8 w0 w d S' M ∧ Turn S wb w ∧ (∀ k, S' k → (S k ∨ wb.heap.size ≤ k) ∧ ¬ T k) ∧ ∀ k, T k → wb.heap.size ≤ k
def ApT (wb : World) (S T : Nat → Prop) : Nat → Prop := fun k => T k ∨ k < wb.heap.size ∧ ¬ S k
theorem KeepS.mono12 {S S' : Nat → Prop} {X Y : World} (h : KeepS S X Y) (hs : ∀ k, S' k → S k) : KeepS S' X Y := ⟨h.size, fun k hk => h.same k (hs k hk)⟩
section
variable {w0 wb w w' : World} {d c : Nat} {S T T' : Nat → Prop} {M M' : DM}
theorem DiskT.of (h : Disk8 w0 w d S M) : DiskT w0 w w d S (fun _ => False) M := ⟨h.bel.size, S, h, Turn.refl _ _, fun _ hk => ⟨.inl hk, fun h => h⟩, fun _ h => h.elim⟩
theorem DiskT.size (h : DiskT w0 wb w d S T M) : wb.heap.size ≤ w.heap.size := by
  obtain ⟨S', -, h2, -⟩ := h.ex
  exact h2.size
theorem DiskT.bel (h : DiskT w0 wb w d S T M) : Below w0.heap.size w0 w := by
  obtain ⟨S', h1, -⟩ := h.ex
  exact h1.bel
theorem DiskT.turn (h : DiskT w0 wb w d S T M) (ht : Turn T w w') (hT : ∀ k, T' k → T k ∨ w.heap.size ≤ k) : DiskT w0 wb w' d S T' M := by
  obtain ⟨S', h1, h2, h3, h4⟩ := h.ex
  have hz := h2.size
  refine ⟨h.lo, S', h1.turn ht (fun k hk => (h3 k hk).2) (fun k hk => Nat.le_trans h.lo (h4 k hk)), h2.wide ht fun k hk => .inr (h4 k hk), fun k hk => ⟨(h3 k hk).1, fun hk' => ?_⟩, fun k hk => ?_⟩
  · rcases hT k hk' with h5 | h5
    · exact (h3 k hk).2 h5
    · have := (h1.own k hk).2
      omega
  · rcases hT k hk with h5 | h5
    · exact h4 k h5
    · omega
theorem DiskT.below (h : DiskT w0 wb w d S T M) (hb : Below w.heap.size w w') : DiskT w0 wb w' d S T M := h.turn (Turn.of_below hb (Nat.le_refl _)) fun _ h => .inl h
theorem DiskT.more (h : DiskT w0 wb w d S T M) (hT : ∀ k, T' k → T k ∨ w.heap.size ≤ k) : DiskT w0 wb w d S T' M := h.turn (Turn.refl _ _) hT
theorem DiskT.add (h : DiskT w0 wb w d S T M) (hb : Below w.heap.size w w') (hT : ∀ k, T' k → T k ∨ w.heap.size ≤ k) : DiskT w0 wb w' d S T' M := h.turn (Turn.of_below hb (Nat.le_refl _)) hT
theorem DiskT.op {P : Program} {f : FuncId} {args : Array Value} {A : Ending → Prop} (h : DiskT w0 wb w d S T M) (hT : ∀ k, T k → k < w.heap.size) (hc : ∀ S', Disk8 w0 w d S' M → (∀ k, S' k → (S k ∨ wb.heap.size ≤ k) ∧ ¬ T k) → Calls P f args w fun e w' => A e ∧ Disk8 w0 w' d (more8 S' w w') M' ∧ Turn S' w w') :
    Calls P f args w fun e w' => A e ∧ DiskT w0 wb w' d S T M' ∧ KeepS (ApT wb S T) w w' := by
  obtain ⟨S', h1, h2, h3, h4⟩ := h.ex
  have hz := h2.size
  refine (hc S' h1 h3).mono ?_
  rintro e w' ⟨ha, hd, ht⟩
  refine ⟨ha, ⟨h.lo, more8 S' w w', hd, h2.wide ht fun k hk => (h3 k hk).1, fun k hk => ?_, h4⟩, ht.size, fun k hk => ht.block k (hk.elim (hT k) fun h => by omega) fun hs => by
    rcases hk with hk | hk
    · exact (h3 k hs).2 hk
    · rcases (h3 k hs).1 with h5 | h5
      · exact hk.2 h5
      · omega⟩
  rcases hk with hk | ⟨h5, h6⟩
  · exact h3 k hk
  · exact ⟨.inr (by omega), fun hk' => by have := hT k hk'; omega⟩
theorem DiskT.create (h : DiskT w0 wb w d S T M) (hT : ∀ k, T k → k < w.heap.size) (hO : M.OkN c) (hc : c < 1099511627776) {x : ByteArray} (hs : x.size ≤ maxLen) :
    Calls Tryz.prog 29 #[.pointer (some ⟨d, 0, none⟩), .string x] w fun e w' => e = .returned (.int .i64 ((M.create x).1 : Nat)) ∧ DiskT w0 wb w' d S T (M.create x).2 ∧ KeepS (ApT wb S T) w w' := h.op hT fun _ hd _ => hd.create hO hc hs
theorem DiskT.sync (h : DiskT w0 wb w d S T M) (hT : ∀ k, T k → k < w.heap.size) (hO : M.OkN c) (hc : c < 1099511627776) :
    Calls Tryz.prog 69 #[.pointer (some ⟨d, 0, none⟩)] w fun e w' => e = .returned (.int .i64 (M.syncs.1 : Nat)) ∧ DiskT w0 wb w' d S T M.syncs.2 ∧ KeepS (ApT wb S T) w w' := h.op hT fun _ hd _ => hd.sync hO hc
theorem DiskT.rename (h : DiskT w0 wb w d S T M) (hT : ∀ k, T k → k < w.heap.size) (hO : M.OkN c) (hc : c < 1099511627776) {a b : ByteArray} (hsa : a.size ≤ maxLen) (hsb : b.size ≤ maxLen) :
    Calls Tryz.prog 71 #[.pointer (some ⟨d, 0, none⟩), .string a, .string b] w fun e w' => e = .returned (.int .i64 ((M.rename a b).1 : Nat)) ∧ DiskT w0 wb w' d S T (M.rename a b).2 ∧ KeepS (ApT wb S T) w w' := h.op hT fun _ hd _ => hd.rename hO hc hsa hsb
theorem DiskT.remove (h : DiskT w0 wb w d S T M) (hT : ∀ k, T k → k < w.heap.size) (hO : M.OkN c) (hc : c < 1099511627776) {x : ByteArray} (hs : x.size ≤ maxLen) :
    Calls Tryz.prog 33 #[.pointer (some ⟨d, 0, none⟩), .string x] w fun e w' => e = .returned (.int .i64 ((M.remove x).1 : Nat)) ∧ DiskT w0 wb w' d S T (M.remove x).2 ∧ KeepS (ApT wb S T) w w' := h.op hT fun _ hd _ => hd.remove hO hc hs
theorem DiskT.append (h : DiskT w0 wb w d S T M) (hT : ∀ k, T k → k < w.heap.size) (hO : M.OkN c) (hc : c < 1099511627776) {x : ByteArray} (hs : x.size ≤ maxLen) {v : Value} {bs : List Int} (hb : HasX w (fun k => ¬ T k) v bs) (hbl : bs.length ≤ 1099511627776) :
    Calls Tryz.prog 31 #[.pointer (some ⟨d, 0, none⟩), .string x, v] w fun e w' => e = .returned (.int .i64 ((M.append x bs).1 : Nat)) ∧ DiskT w0 wb w' d S T (M.append x bs).2 ∧ KeepS (ApT wb S T) w w' := h.op hT fun _ hd h3 => hd.append hO hc hs (hb.mono fun k _ hk => (h3 k hk).2) hbl
theorem DiskT.read (h : DiskT w0 wb w d S T M) (hI : M.Inv) {x : ByteArray} (hs : x.size ≤ maxLen) :
    Calls Tryz.prog 97 #[.pointer (some ⟨d, 0, none⟩), .string x] w fun e w' => (∃ v, e = .returned (.tuple #[v, .int .i64 (M.readE x : Nat)]) ∧ Owns w' w.heap.size 5 v (M.readB x)) ∧ Below w.heap.size w w' := by
  obtain ⟨S', h1, -⟩ := h.ex
  exact read_any h1.at8 hI hs
theorem DiskT.list (h : DiskT w0 wb w d S T M) (hI : M.Inv) :
    Calls Tryz.prog 38 #[.pointer (some ⟨d, 0, none⟩)] w fun e w' => (∃ v, e = .returned v ∧ w'.ownsRow w.heap.size 9 1 v M.listT.length (textsV8 M.listT)) ∧ Below w.heap.size w w' := by
  obtain ⟨S', h1, -⟩ := h.ex
  exact list_any h1.at8 hI
theorem DiskT.apt_lt (h : DiskT w0 wb w d S T M) (hT : ∀ k, T k → k < w.heap.size) {k : Nat} (hk : ApT wb S T k) : k < w.heap.size := by
  have := h.size
  rcases hk with hk | hk
  · exact hT k hk
  · omega
theorem DiskT.count (h : DiskT w0 wb w d S T M) (hI : M.Inv) : M.listT.length ≤ 16777216 := by
  obtain ⟨S', h1, -⟩ := h.ex
  obtain ⟨_, _, _, _, _, _, _, hn⟩ := h1.at8.open8 hI
  unfold DM.listT
  split
  · exact Nat.zero_le _
  · exact hn
theorem DiskT.disk (h : DiskT w0 wb w d S T M) (hS : ∀ k, S k → w0.heap.size ≤ k ∧ k < wb.heap.size) : Disk8 w0 w d (more8 S wb w) M ∧ Turn S wb w := by
  obtain ⟨S', h1, h2, h3, -⟩ := h.ex
  have hz := h2.size
  refine ⟨⟨h1.at8.mono fun k _ hk => (h3 k hk).1.imp id fun h => ⟨h, (h1.own k hk).2⟩, fun k hk => ?_, h1.bel⟩, h2⟩
  have hl := h.lo
  rcases hk with hk | ⟨h5, h6⟩
  · exact ⟨(hS k hk).1, Nat.lt_of_lt_of_le (hS k hk).2 hz⟩
  · exact ⟨by omega, h6⟩
end
end Go.Proofs.YthlelcmifolnfaaGreatDoor

namespace Go.Proofs.YthlelcmifolnfaaGreatDoor
open Go.RowKit Go.Shelf
theorem chunkB_any (p : Option Addr) (n c : Nat) (w : World) : Calls Tryz.prog 108 #[.slice p n c, .int .i64 4096] w fun e w' => e = .returned (.func (.func 147) #[] #[.pointer (some ⟨w.heap.size, 0, none⟩), .pointer (some ⟨w.heap.size + 1, 0, none⟩)]) ∧ w' = (w.alloc (.cells #[.slice p n c] 25)).alloc (.cells #[.int .i64 4096] 3) := by
  have hmf : ∀ (fn : Fn) (first cap : Array Value) (w : World), (Instr.makeFunc fn first cap).run Tryz.prog w = .ok (.func fn first cap) w := fun _ _ _ _ => rfl
  go_enter Tryz.func108, Tryz.ntmps108
  go_wp2
  go_ret
  exact ⟨rfl, rfl⟩
def pieceV (b o n j : Nat) : Value := .slice (some ⟨b, o + 4096 * j, none⟩) (min 4096 (n - 4096 * j)) (min 4096 (n - 4096 * j))
theorem Has.piece {w : World} {b o n c : Nat} {xs : List Int} (h : Has w (.slice (some ⟨b, o, none⟩) n c) xs) {j : Nat} (hj : 4096 * j < n) : Has w (pieceV b o n j) (piece12 xs j) := by
  have hn : xs.length = n := by
    obtain ⟨p', c', hv, _⟩ := id h
    simp only [Value.slice.injEq] at hv
    exact hv.2.1.symm
  have h2 := Has.cutAt (xs := xs) (c := c) (by rw [hn]; exact h) (4096 * j) (min 4096 (n - 4096 * j)) (by omega)
  unfold pieceV piece12
  obtain ⟨q, d, hv, hc, hnone, hcell⟩ := h2
  simp only [Value.slice.injEq] at hv
  obtain ⟨rfl, hm, rfl⟩ := hv
  have e : (xs.drop (4096 * j)).take (min 4096 (n - 4096 * j)) = (xs.drop (4096 * j)).take 4096 := by
    rcases Nat.le_total 4096 (n - 4096 * j) with h1 | h1
    · rw [Nat.min_eq_left h1]
    · rw [Nat.min_eq_right h1, List.take_of_length_le (by rw [List.length_drop]; omega), List.take_of_length_le (by rw [List.length_drop]; omega)]
  rw [e] at hm hcell
  exact ⟨_, _, by rw [hm], by omega, (fun h => by cases h), hcell⟩
theorem min_of12 (x y : Int) : (if y < x then y else x) = min x y := by
  split <;> omega
theorem min2_run12 (ts : Array TypeId) (t : TypeId) (x y : Int) (W : World) : (Builtin.min_ ts t #[.int .i64 x, .int .i64 y]).run Tryz.prog W = .ok (.int .i64 (min x y)) W := by
  simp [Builtin.min_, Builtin.min2, min_of12]
def ckS (Bs Bn k : Nat) : Prop := k = Bs ∨ k = Bn

set_option maxRecDepth 100000 in
set_option maxHeartbeats 400000 in
theorem chunk1_seq (b o n c Bs Bn : Nat) (hn0 : 0 < n) (hl : n ≤ 1073741824) (hc : n ≤ c) (w : World) (hs : Boxed w Bs 25 (.slice (some ⟨b, o, none⟩) n c)) (hn : Boxed w Bn 3 (.int .i64 4096)) :
    SeqZ Tryz.prog 147 #[] #[.pointer (some ⟨Bs, 0, none⟩), .pointer (some ⟨Bn, 0, none⟩)] (fun j : Nat => #[pieceV b o n j]) (ckS Bs Bn) (fun _ _ => False) (fun _ _ pre j _ => j = pre.length ∧ 4096 * j < n) (fun pre => n ≤ 4096 * pre.length) w := by
  intro l J Jx W hK hJ hJx hY h0
  have hsW := hK.box hs (.inl rfl)
  have hnW := hK.box hn (.inr rfl)
  have HJ : Hid _ := hJ
  have HY : Hid _ := hY
  have HS : Hid (Boxed W Bs 25 (.slice (some ⟨b, o, none⟩) n c)) := hsW
  have HN : Hid (Boxed W Bn 3 (.int .i64 4096)) := hnW
  have hWz := hK.size
  clear hs hn hK hJ hJx hY hsW hnW
  refine (callsIn_wide (n := 3)).1 ?_
  refine callsIn_of_wp Tryz.func147 rfl trivial ?_ rfl
  simp only [Tryz.ntmps147, List.size_toArray, List.length_cons, List.length_nil, Nat.reduceAdd, Nat.reduceSub, Array.replicate_succ, Array.replicate_zero, List.push_toArray, List.append_toArray, List.nil_append, List.cons_append]
  gi_wp2
  gi_loopw [4] (fun s4 wr => ∃ (pre : List Nat) (j : Nat), s4 = .int .i64 ((4096 * j : Nat) : Int) ∧ Hid (pre.length = j) ∧ 4096 * j < n + 4096 ∧ W.heap.size ≤ wr.heap.size ∧ Hid (KeepS (ckS Bs Bn) W wr) ∧ Hid (J (fun _ => False) pre wr)) (fun s4 _ => n + 4096 - (intOf s4).toNat)
  case atStart => exact ⟨[], 0, rfl, rfl, by omega, Nat.le_refl _, KeepS.refl _ _, h0⟩
  case round =>
    obtain ⟨pre, j, rfl, Hj, hjn, hz, HK, HJr⟩ := hrel
    have bs := HK.out.box HS.out (.inl rfl)
    have bn := HK.out.box HN.out (.inr rfl)
    have y0 := bs.cell
    have y1 := bn.cell
    have l0 := bs.lt
    have l1 := bn.lt
    obtain ⟨i, Hi⟩ : ∃ i : Nat, Hid (4096 * j = i) := ⟨_, rfl⟩
    rw [Hi.out] at hjn ⊢
    by_cases hin : i < n
    · obtain ⟨e, He⟩ : ∃ e : Nat, Hid (min 4096 (n - i) = e) := ⟨_, rfl⟩
      have he1 : 0 < e ∧ i + e ≤ n ∧ e ≤ 4096 := by have := He.out; omega
      have hm2 : ∀ (ts : Array TypeId) (t : TypeId) (W : World), (Builtin.min_ ts t #[.int .i64 4096, .int .i64 (((n - i : Nat)) : Int)]).run Tryz.prog W = .ok (.int .i64 (e : Nat)) W := fun ts t W => by
        have := min2_run12 ts t 4096 ((n - i : Nat) : Int) W
        rw [show min (4096 : Int) ((n - i : Nat) : Int) = (e : Nat) by have := He.out; omega] at this
        exact this
      have hm3 : ∀ (ts : Array TypeId) (t : TypeId) (W : World), (Builtin.min_ ts t #[.int .i64 4096, .int .i64 ((n : Int) - (i : Int))]).run Tryz.prog W = .ok (.int .i64 (e : Nat)) W := fun ts t W => by
        have := hm2 ts t W
        rw [show ((n - i : Nat) : Int) = (n : Int) - (i : Int) by omega] at this
        exact this
      obtain ⟨q1, q2, q3⟩ := he1
      have hw1 : IntKind.i64.wrap ((i : Int) + (e : Int)) = ((i + e : Nat) : Int) := by rw [IntKind.wrap_i64]; omega
      have HR := HY.out (fun _ => False) pre j wr.drew hz (fun _ h => h.elim) ⟨Hj.out.symm, by rw [Hi.out]; exact hin⟩ (HJ.out _ _ _ _ _ HJr.out (Turn.refl _ wr).drew fun _ h => h.elim (fun h => .inl h) (fun h => h.elim))
      obtain ⟨fn, tmps, assign, body, hy, hR⟩ := YieldAt.wide (m' := 2) HR
      have hpv : pieceV b o n j = .slice (some ⟨b, o + i, none⟩) e e := by unfold pieceV; rw [Hi.out, He.out]
      rw [hpv] at hy
      have y0' : wr.drew.cell? ⟨Bs, 0, none⟩ = some (.slice (some ⟨b, o, none⟩) n c) := y0
      have y1' : wr.drew.cell? ⟨Bn, 0, none⟩ = some (.int .i64 4096) := y1
      clear HR hpv
      gi_wp2_with fail
      gi_region
      gi_wp2
      refine hR.mono ?_
      clear hR hy
      rintro e' Z ⟨bb, rfl, hk1, hk2, hb⟩
      have hzZ := hk1.size
      have HKZ : Hid (KeepS (ckS Bs Bn) W Z) := HK.out.drew.trans hk1
      have HJZ : Hid (if bb = true then J (fun _ => False) (pre ++ [j]) Z else Jx (fun _ => False) (pre ++ [j]) Z) := hb
      have bn2 := HKZ.out.box HN.out (.inr rfl)
      have z1 := bn2.cell
      have zl := bn2.lt
      have hzw : wr.drew.heap.size = wr.heap.size := rfl
      have hw2 : IntKind.i64.wrap ((i : Int) + 4096) = ((i + 4096 : Nat) : Int) := by rw [IntKind.wrap_i64]; omega
      clear hk1 hk2 hb
      cases bb with
      | true =>
        rw [if_pos rfl] at HJZ
        gi_wp2
        go_roundw
        case rel => exact ⟨pre ++ [j], j + 1, by first | (have := Hi.out; congr 1; omega) | skip, by rw [Hid, List.length_append, List.length_singleton, Hj.out], by have := Hi.out; omega, by omega, HKZ, HJZ⟩
        case measure => simp only [intOf]; have := Hi.out; omega
      | false =>
        rw [if_neg (by simp)] at HJZ
        gi_wp2
        refine bodyPost_ret (results_none rfl _ _ _) rfl ?_
        exact ⟨⟨_, rfl⟩, _, _, by omega, (fun _ h => h.elim), .inr HJZ.out⟩
    · gi_wp2
      refine bodyPost_end (results_none rfl _ _ _) rfl ?_
      exact ⟨⟨_, rfl⟩, _, pre, hz, (fun _ h => h.elim), .inl ⟨by rw [Hj.out, Hi.out]; omega, HJr.out⟩⟩
end Go.Proofs.YthlelcmifolnfaaGreatDoor
