import Derived.Test.YthlelcmifolnfaaGreatDoorEq1To
import Derived.Test.YthlelcmifolnfaaGreatDoorLxTo
import Derived.Deep.RegionLaw
import Derived.Test.YthlelcmifolnfaaGreatDoorLd
namespace Go.Proofs.YthlelcmifolnfaaGreatDoor
open Go.RowKit Go.Shelf
attribute [local go_sem ↓] ldS_exec ldS_run stS_exec stS_run oc_int oc_bool oc_string oc_slice oc_pointer
theorem step_text {P : Program} {ops : Array Oper} {o : Oper} {a : Act} {K : Act → World → Prop} {Q : Exit → Act → World → Prop} {E : Prop} (w : World) (hgd : o.guard = none) (s x : Operand) (t u : TypeId)
    (ho : o.op = .call { callee := .builtin .append, args := #[s, x], argTypes := #[t, u] })
    (B : Nat) (e : TypeId) (i : TypeInfo) (ht : P.underlying t = some (.slice e)) (hu : P.underlying u = some .string) (hi : P.info? e = some i) (hz : i.zero = some (.int .u8 0)) (hsize : i.size = 1) (hby : i.bytes = 1)
    (v : Value) (xs : List Int) (str : ByteArray) (hs : a.eval s = v) (hx : a.eval x = .string str) (hown : Owns w B e v xs) (hlen : xs.length ≤ 1099511627776) (hlen2 : str.size ≤ 1099511627776) (hB : B ≤ w.heap.size)
    (h : ∀ v' w', Owns w' B e v' (xs ++ strB str) → w.grownBy w' v.ownBlock → K (a.put o.dst v') w') :
    if Region.wanted o (yielded ops a.tmps) = true then Oper.wp P o a w K Q else E := by
  have hw : Region.wanted o (yielded ops a.tmps) = true := by simp [Region.wanted, hgd]
  rw [if_pos hw]
  obtain ⟨v', w', hr, h2, h3, -⟩ := Lib.run_append_own_string (P := P) w B t u o.type e i ht hu hi hz hsize hby v xs.length (cellsB xs) hown str (by unfold maxLen; omega) (by omega) hB
  unfold Oper.wp execOp
  simp only [ho, resolve, invoke, builtin, Sem.run_bind, Sem.run_pure, Result.andThen_ok, List.map_toArray, List.map_cons, List.map_nil, hs, hx, hr]
  refine h v' w' ?_ h3
  unfold Owns
  have e1 : (xs ++ strB str).length = xs.length + str.size := by rw [List.length_append, strB_length]
  have e2 : cellsB (xs ++ strB str) = cellsB xs ++ Lib.strCells str := by simp [cellsB, Lib.strCells, strB]
  rw [e1, e2]
  exact h2

theorem SnapAt.put {w : World} {b : Nat} {x x' : SnapV} (h : SnapAt w b x) (i : Nat) (v : Value) (hi : i < 5) (hc : x'.arr = x.arr.set i v (by show i < 5; exact hi)) : SnapAt (w.setCell ⟨b, i, none⟩ v) b x' := by
  unfold SnapAt
  rw [hc]
  exact set_block9 h i v _
theorem fillS {w : World} {b : Nat} {x0 : SnapV} (h : SnapAt w b x0) (si : Int) (st : Int) (p : Option Addr) (n : Nat) (c : Nat) (q : Option Addr) (m : Nat) (d : Nat) (a : Option Addr) (b0 : Nat) (e0 : Nat) (f : Conf10) (dd : List Int) : SnapAt (((((w.setCell ⟨b, 0, none⟩ (.int .i64 si)).setCell ⟨b, 1, none⟩ (.int .i64 st)).setCell ⟨b, 2, none⟩ (.slice p n c)).setCell ⟨b, 3, none⟩ (.slice q m d)).setCell ⟨b, 4, none⟩ (.slice a b0 e0)) b ⟨si, st, ⟨⟨p, n, c⟩, ⟨q, m, d⟩, f⟩, ⟨a, b0, e0⟩, dd⟩ := by
  obtain ⟨si0_, st0_, ⟨⟨p0_, n0_, c0_⟩, ⟨q0_, m0_, d0_⟩, f0_⟩, ⟨a0_, b00_, e00_⟩, dd0_⟩ := x0
  exact (((((h.put (x' := ⟨si, st0_, ⟨⟨p0_, n0_, c0_⟩, ⟨q0_, m0_, d0_⟩, f⟩, ⟨a0_, b00_, e00_⟩, dd⟩) 0 _ (by decide) rfl).put (x' := ⟨si, st, ⟨⟨p0_, n0_, c0_⟩, ⟨q0_, m0_, d0_⟩, f⟩, ⟨a0_, b00_, e00_⟩, dd⟩) 1 _ (by decide) rfl).put (x' := ⟨si, st, ⟨⟨p, n, c⟩, ⟨q0_, m0_, d0_⟩, f⟩, ⟨a0_, b00_, e00_⟩, dd⟩) 2 _ (by decide) rfl).put (x' := ⟨si, st, ⟨⟨p, n, c⟩, ⟨q, m, d⟩, f⟩, ⟨a0_, b00_, e00_⟩, dd⟩) 3 _ (by decide) rfl).put (x' := ⟨si, st, ⟨⟨p, n, c⟩, ⟨q, m, d⟩, f⟩, ⟨a, b0, e0⟩, dd⟩) 4 _ (by decide) rfl)

structure OwnsS (w : World) (B : Nat) (x : SnapV) : Prop where
  i : inI x.i
  t : inI x.t
  f : OwnsF w B x.f
  w : Owns w B 5 (.slice x.w.p x.w.n x.w.c) x.d
  b : IsB x.d
  l : x.d.length ≤ 1073741824
theorem OwnsS.fits {w : World} {B : Nat} {x : SnapV} (h : OwnsS w B x) : FitsS w x := ⟨h.i, h.t, h.f.fits, h.w.has, h.b, Nat.le_trans h.l (by decide)⟩
theorem OwnsS.mono {w : World} {B B' : Nat} {x : SnapV} (h : OwnsS w B x) (hB : B' ≤ B) : OwnsS w B' x := ⟨h.i, h.t, h.f.mono hB, h.w.mono hB, h.b, h.l⟩
theorem Owns.kept10 {w w' : World} {B r : Nat} {e : TypeId} {v : Value} {xs : List Int} (h : Owns w B e v xs) (hg : w.grownBy w' (some r)) (hr : r < B) : Owns w' B e v xs := by
  refine World.ownsRow.kept h hg ?_
  cases hv : v.ownBlock with
  | none => exact .inl rfl
  | some k =>
    have := (World.ownsRow.lt h k hv).1
    exact .inr (fun e => by cases e; omega)
theorem OwnsS.kept {w w' : World} {B r : Nat} {x : SnapV} (h : OwnsS w B x) (hg : w.grownBy w' (some r)) (hr : r < B) : OwnsS w' B x := ⟨h.i, h.t, h.f.kept hg hr, h.w.kept10 hg hr, h.b, h.l⟩
theorem OwnsS.cell {w : World} {B b : Nat} {x : SnapV} (h : OwnsS w B x) (hb : b < B) (i : Nat) (v : Value) : OwnsS (w.setCell ⟨b, i, none⟩ v) B x := h.kept (grown_set w b i v) hb
theorem OwnsS.below {w w' : World} {B : Nat} {x : SnapV} (h : OwnsS w B x) (hb : Below w.heap.size w w') : OwnsS w' B x := ⟨h.i, h.t, h.f.below hb, h.w.below hb (Nat.le_refl _), h.b, h.l⟩
theorem OwnsS.nil (w : World) (B : Nat) : OwnsS w B noSV := ⟨⟨by decide, by decide⟩, ⟨by decide, by decide⟩, OwnsF.nil w B, Owns.nil w B _, IsB.nil, Nat.zero_le _⟩
theorem snap10_is (S : St) : snap10 9 S = (⟨(int9 S).1, (int9 (int9 S).2).1, (conf10 9 (int9 (int9 S).2).2).1, (byt10 (conf10 9 (int9 (int9 S).2).2).2).1⟩, (byt10 (conf10 9 (int9 (int9 S).2).2).2).2) := by
  unfold snap10
  rfl


set_option maxRecDepth 100000 in
set_option maxHeartbeats 4000000 in
theorem snapR_any (w0 w : World) (rb : Nat) (S0 : St) (h : Rdr w0 w rb S0) :
    Calls Tryz.prog 118 #[.pointer (some ⟨rb, 0, none⟩)] w fun e w' => ∃ X : SnapV, e = .returned (.agg X.arr) ∧ X.s = (snap10 9 S0).1 ∧ OwnsS w' w.heap.size X ∧ Left10 w0 w rb (snap10 9 S0).2 w' := by
  have hmf : ∀ (fn : Fn) (first cap : Array Value) (w : World), (Instr.makeFunc fn first cap).run Tryz.prog w = .ok (.func fn first cap) w := fun _ _ _ _ => rfl
  obtain ⟨i0, hi, hz0, hz1, hz2⟩ := info_parts info8c
  have h0 : RdX w0 w _ rb S0 27 #[.int .i64 0, .int .i64 0, .slice none 0 0, .slice none 0 0, .slice none 0 0] #[.int .i64 0, .int .i64 0, .slice none 0 0, .slice none 0 0, .slice none 0 0] := RdX.new h 27 #[.int .i64 0, .int .i64 0, .slice none 0 0, .slice none 0 0, .slice none 0 0]
  have HC : Hid (snap10 9 S0 = (⟨(int9 S0).1, (int9 (int9 S0).2).1, (conf10 9 (int9 (int9 S0).2).2).1, (byt10 (conf10 9 (int9 (int9 S0).2).2).2).1⟩, (byt10 (conf10 9 (int9 (int9 S0).2).2).2).2)) := snap10_is S0
  have HI0 : Hid (inI (int9 S0).1) := int9_in _
  have HI1 : Hid (inI (int9 (int9 S0).2).1) := int9_in _
  generalize snap10 9 S0 = R at *
  have hrl := h.lt
  clear h
  go_enter Tryz.func118, Tryz.ntmps118
  have ki0 := h0.r.int
  go_wp2_with fail
  refine ki0.mono ?_
  rintro _ y0 ⟨rfl, hl0⟩
  have h1 := h0.left hl0
  clear h0 ki0 hl0
  generalize int9 S0 = A at *
  obtain ⟨z0, S1⟩ := A
  dsimp only at h1 HC HI0 HI1
  have ki1 := h1.r.int
  go_wp2_with fail
  refine ki1.mono ?_
  rintro _ y1 ⟨rfl, hl1⟩
  have h2 := h1.left hl1
  clear h1 ki1 hl1
  generalize int9 S1 = A at *
  obtain ⟨z1, S2⟩ := A
  dsimp only at h2 HC HI1

  have c0 := box_cell h2.box 0
  have c1 := box_cell h2.box 1
  have fb := frozen9 h2.box
  have hlb := box_lt h2.box
  go_upto_region 4 with fail
  have h3 : RdX w0 w _ rb S2 27 #[.int .i64 z0, .int .i64 z1, .slice none 0 0, .slice none 0 0, .slice none 0 0] #[.int .i64 0, .int .i64 0, .slice none 0 0, .slice none 0 0, .slice none 0 0] := (h2.put 0 (.int .i64 z0) (by show 0 < 5; omega)).put 1 (.int .i64 z1) (by show 1 < 5; omega)
  clear h2 c0 c1 fb hlb
  generalize (y1.setCell ⟨w.heap.size + 1, 0, none⟩ (.int .i64 z0)).setCell ⟨w.heap.size + 1, 1, none⟩ (.int .i64 z1) = X3 at *
  have kc := confR_any w0 X3 rb S2 h3.r
  have hb3 := box_lt h3.box
  generalize conf10 9 S2 = A at *
  obtain ⟨ff, S3⟩ := A
  dsimp only at kc HC
  go_wp2_with fail
  refine kc.mono ?_
  rintro _ y4 ⟨X, rfl, hO4, hXf, hl4⟩
  have h4 := h3.left hl4
  have HXf : Hid (X.f = ff) := hXf
  clear kc h3 hl4 hXf
  obtain ⟨⟨p, n, c⟩, ⟨q, m, d⟩, f⟩ := X
  unfold ConfV.arr
  dsimp only
  have c2 := box_cell h4.box 2
  have c3 := box_cell h4.box 3
  have fb := frozen9 h4.box
  have hlb := box_lt h4.box
  go_upto_region 5 with fail
  have h5 : RdX w0 w _ rb S3 27 #[.int .i64 z0, .int .i64 z1, .slice p n c, .slice q m d, .slice none 0 0] #[.int .i64 0, .int .i64 0, .slice none 0 0, .slice none 0 0, .slice none 0 0] := (h4.put 2 (.slice p n c) (by show 2 < 5; omega)).put 3 (.slice q m d) (by show 3 < 5; omega)
  have hO5 := (hO4.cell (b := w.heap.size + 1) (by omega) 2 (.slice p n c)).cell (b := w.heap.size + 1) (by omega) 3 (.slice q m d)
  clear h4 hO4 c2 c3 fb hlb
  generalize (y4.setCell ⟨w.heap.size + 1, 2, none⟩ (.slice p n c)).setCell ⟨w.heap.size + 1, 3, none⟩ (.slice q m d) = X5 at *
  have hD : Below X5.heap.size X5 X5.drew := ⟨rfl, rfl, rfl, Nat.le_refl _, fun _ _ => rfl⟩
  have h6 := h5.more hD
  have hO6 := hO5.below hD
  have kt := h6.r.text
  have HB : Hid (IsB (byt10 S3).1) := byt10_isB h6.r.isb
  have hlen : (byt10 S3).1.length ≤ 1073741824 := Nat.le_trans (byt10_len S3) h6.r.len
  have HT : Hid (strB (strOfNums (byt10 S3).1) = (byt10 S3).1) := strB_of HB.out
  have hsz : (strOfNums (byt10 S3).1).size ≤ 1073741824 := by rw [size_of HB.out]; exact hlen
  have HLen : Hid ((byt10 S3).1.length ≤ 1073741824) := hlen
  generalize byt10 S3 = A at *
  obtain ⟨xs, S4⟩ := A
  dsimp only at kt HC HB HT hsz HLen
  generalize strOfNums xs = sx at *
  have c4 : X5.drew.cell? ⟨w.heap.size + 1, 4, none⟩ = some (.slice none 0 0) := box_cell h6.box 4
  have hlb := box_lt h6.box
  have hx6 : Hid (RdX w0 w X5.drew rb S3 27 #[.int .i64 z0, .int .i64 z1, .slice p n c, .slice q m d, .slice none 0 0] #[.int .i64 0, .int .i64 0, .slice none 0 0, .slice none 0 0, .slice none 0 0]) := h6
  have HO6 : Hid (OwnsF X5.drew X3.heap.size ⟨⟨p, n, c⟩, ⟨q, m, d⟩, f⟩) := hO6
  clear h5 h6 hO5 hO6 hD hlen
  go_region_law (first
    | (go_simp; go_at_call 155; refine Calls.mono kt ?_; rintro _ y7 ⟨rfl, hl7⟩; dsimp only; have h7 := hx6.out.left hl7; have hO7 := HO6.out.kept hl7.2 (by omega); have d4 : y7.cell? ⟨w.heap.size + 1, 4, none⟩ = some (.slice none 0 0) := box_cell h7.box 4; have hld := box_lt h7.box)
    | (refine step_text _ rfl _ _ 25 9 rfl y7.heap.size 5 i0 Tryz.underlying25 Tryz.underlying9 hi hz0 hz1 hz2 _ [] sx rfl rfl (Owns.nil _ _ _) (by simp) (by omega) (Nat.le_refl _) ?_; intro v8 y8 ho8 hg8; have hb8 := (below_grown (Owns.nil y7 y7.heap.size 5) (Nat.le_refl _) hg8); rw [List.nil_append, HT.out] at ho8; have h8 := h7.more hb8; have hO8 := hO7.below hb8; have c4' := box_cell h8.box 4; have fb := frozen9 h8.box; have hlb8 := box_lt h8.box; obtain ⟨a, e0, rfl, -, -, -⟩ := id ho8.has; generalize hb0 : xs.length = b0 at ho8 ⊢; clear hb0))
  all_goals
    have hx : RdX w0 w _ rb S4 27 #[.int .i64 z0, .int .i64 z1, .slice p n c, .slice q m d, .slice a b0 e0] #[.int .i64 0, .int .i64 0, .slice none 0 0, .slice none 0 0, .slice none 0 0] := h8.put 4 (.slice a b0 e0) (by show 4 < 5; omega)
    have hS9 : OwnsS _ (w.heap.size + 1 + 1) ⟨z0, z1, ⟨⟨p, n, c⟩, ⟨q, m, d⟩, f⟩, ⟨a, b0, e0⟩, xs⟩ := ⟨HI0.out, HI1.out, (hO8.cell (b := w.heap.size + 1) (by omega) 4 (.slice a b0 e0)).mono (by omega), (ho8.kept10 (grown_set y8 (w.heap.size + 1) 4 (.slice a b0 e0)) (by omega)).mono (by omega), HB.out, HLen.out⟩
    clear h8 hO8 ho8 c4' fb hlb8 h7 hO7 d4 hld hl7 hg8 hb8
    generalize y8.setCell ⟨w.heap.size + 1, 4, none⟩ (.slice a b0 e0) = X9 at *
    have c0 := box_cell hx.box 0
    have c1 := box_cell hx.box 1
    have c2 := box_cell hx.box 2
    have c3 := box_cell hx.box 3
    have c4 := box_cell hx.box 4
    have d0 := box_cell hx.res 0
    have d1 := box_cell hx.res 1
    have d2 := box_cell hx.res 2
    have d3 := box_cell hx.res 3
    have d4 := box_cell hx.res 4
    have fb := frozen9 hx.res
    have hlb := box_lt hx.box
    have hlr := box_lt hx.res
    go_wp2
    have hF := fillS (b := w.heap.size) (x0 := noSV) hx.res z0 z1 p n c q m d a b0 e0 f xs
    have hR9 := ((((((((((hx.r).cell (b := w.heap.size) (by omega) (by omega) 0 (.int .i64 z0))).cell (b := w.heap.size) (by omega) (by omega) 1 (.int .i64 z1))).cell (b := w.heap.size) (by omega) (by omega) 2 (.slice p n c))).cell (b := w.heap.size) (by omega) (by omega) 3 (.slice q m d))).cell (b := w.heap.size) (by omega) (by omega) 4 (.slice a b0 e0))
    have hG9 := (grown_new (b := w.heap.size) (grown_new (b := w.heap.size) (grown_new (b := w.heap.size) (grown_new (b := w.heap.size) (grown_new (b := w.heap.size) hx.g (by omega) 0 (.int .i64 z0)) (by omega) 1 (.int .i64 z1)) (by omega) 2 (.slice p n c)) (by omega) 3 (.slice q m d)) (by omega) 4 (.slice a b0 e0))
    have hO9 := ((((((((((hS9).cell (b := w.heap.size) (by omega) 0 (.int .i64 z0))).cell (b := w.heap.size) (by omega) 1 (.int .i64 z1))).cell (b := w.heap.size) (by omega) 2 (.slice p n c))).cell (b := w.heap.size) (by omega) 3 (.slice q m d))).cell (b := w.heap.size) (by omega) 4 (.slice a b0 e0))
    refine bodyPost_ret (ret_one rfl _ _ w.heap.size _ _ _ _ rfl hF Tryz.underlying27 rfl (by kernel_rfl)) rfl ⟨⟨z0, z1, ⟨⟨p, n, c⟩, ⟨q, m, d⟩, f⟩, ⟨a, b0, e0⟩, xs⟩, rfl, ?_, hO9.mono (by omega), ?_, hG9⟩
    · rw [HC.out, ← HXf.out]; rfl
    · rw [HC.out]; exact hR9

theorem readerOf_any (v : Value) (w : World) (h : ∃ p n c, v = .slice p n c) : Calls Tryz.prog 116 #[v] w fun e w' => e = .returned (.pointer (some ⟨w.heap.size, 0, none⟩)) ∧ w' = w.alloc (.cells #[v, .bool false] 176) := by
  obtain ⟨p, n, c, rfl⟩ := h
  go_enter Tryz.func116, Tryz.ntmps116
  go_wp2
  go_ret
  exact ⟨rfl, rfl⟩
theorem Rdr.make {w0 w : World} {v : Value} {xs : List Int} (hb : Below w0.heap.size w0 w) (hv : Has w0 v xs) (hB : IsB xs) (hl : xs.length ≤ 1073741824) (T : TypeId) : Rdr w0 (w.alloc (.cells #[v, .bool false] T)) w.heap.size (xs, false) := by
  have hbox := heap_alloc_new w (.cells #[v, .bool false] T)
  have hb2 : Below w.heap.size w (w.alloc (.cells #[v, .bool false] T)) := (Below.refl _ _).alloc (Nat.le_refl _) _
  refine ⟨⟨v, ⟨by simp, hb.size, box_cell hbox 0, box_cell hbox 1, frozen9 hbox 0, frozen9 hbox 1, (hv.inn.below hb (Nat.le_refl _)).below hb2 hb.size⟩⟩, hb.trans (hb2.mono hb.size), (fun h => by cases h), hB, hl⟩
set_option maxRecDepth 100000 in
set_option maxHeartbeats 4000000 in
theorem wholeS_any (w0 w : World) (rb : Nat) (S : St) (h : Rdr w0 w rb S) :
    Calls Tryz.prog 117 #[.pointer (some ⟨rb, 0, none⟩), .func (.func 118) #[.pointer (some ⟨rb, 0, none⟩)] #[], .func (.func 42) #[] #[]] w fun e w' => ∃ X : SnapV, e = .returned (.tuple #[.agg X.arr, .int .i64 (whole10 goodS10 noS10 (snap10 9 S)).2]) ∧ X.s = (whole10 goodS10 noS10 (snap10 9 S)).1 ∧ OwnsS w' w.heap.size X ∧ Below w0.heap.size w0 w' ∧ w.grownBy w' (some rb) := by
  have hb1 : Below w.heap.size w (w.alloc (.cells #[.int .i64 0, .int .i64 0, .slice none 0 0, .slice none 0 0, .slice none 0 0] 27)) := (Below.refl _ _).alloc (Nat.le_refl _) _
  have hbox : SnapAt (w.alloc (.cells #[.int .i64 0, .int .i64 0, .slice none 0 0, .slice none 0 0, .slice none 0 0] 27)) w.heap.size noSV := heap_alloc_new w _
  have hz1 : (w.alloc (.cells #[.int .i64 0, .int .i64 0, .slice none 0 0, .slice none 0 0, .slice none 0 0] 27)).heap.size = w.heap.size + 1 := by simp
  have hrl := h.lt
  have k1 := snapR_any w0 _ rb S (h.more hb1)
  have HW0 : Hid (whole10 goodS10 noS10 (snap10 9 S) = if ((snap10 9 S).2.1.isEmpty && !(snap10 9 S).2.2) && goodS10 (snap10 9 S).1 then ((snap10 9 S).1, 0) else (noS10, 8)) := rfl
  generalize whole10 goodS10 noS10 (snap10 9 S) = R at *
  generalize snap10 9 S = A at *
  obtain ⟨x0, S1⟩ := A
  dsimp only at k1 HW0
  clear h
  go_enter Tryz.func117, Tryz.ntmps117
  go_wp2_with fail
  generalize w.alloc (.cells #[.int .i64 0, .int .i64 0, .slice none 0 0, .slice none 0 0, .slice none 0 0] 27) = W1 at *
  refine k1.mono ?_
  rintro _ w2 ⟨X, rfl, hX, hM, hR2, hg2⟩
  have hbox2 : SnapAt w2 w.heap.size noSV := grown_box hg2 hbox (by omega)
  have hG2 := grown_after hb1 hg2
  have hsz2 := hg2.size
  have hb3 : Below w2.heap.size w2 (w2.alloc (.cells X.arr 27)) := (Below.refl _ _).alloc (Nat.le_refl _) _
  have hbn3 : SnapAt (w2.alloc (.cells X.arr 27)) w2.heap.size X := heap_alloc_new w2 _
  have hbox3 := box_below hbox2 hb3
  have hR3 := hR2.more hb3
  have hG3 := grown_trans hG2 (below_grownBy hb3)
  have hM3 := hM.below hb3
  have kg : Calls Tryz.prog 42 #[.agg X.arr] (w2.alloc (.cells X.arr 27)) fun e w' => e = .returned (.bool (goodS10 X.s)) ∧ Below (w2.alloc (.cells X.arr 27)).heap.size (w2.alloc (.cells X.arr 27)) w' := (fun W h => goodSnap_any X W h) _ hM3.fits
  have kf := hR3.fin
  have HX : Hid (X.s = x0) := hX
  rw [hX] at kg
  clear k1 hbox hR2 hg2 hbox2 hG2 hb3 hM hX
  generalize hgx : goodS10 x0 = gx at *
  have HGX : Hid (goodS10 x0 = gx) := hgx
  clear hgx
  obtain ⟨si, st, ⟨⟨p, n, c⟩, ⟨q, m, d⟩, f⟩, ⟨a, b0, e0⟩, dd⟩ := X
  unfold SnapV.arr at *
  dsimp only at *
  go_wp2_with fail
  generalize w2.alloc (.cells #[.int .i64 si, .int .i64 st, .slice p n c, .slice q m d, .slice a b0 e0] 27) = W3 at *
  generalize w2.heap.size = bx at *
  generalize hfi : (S1.1.isEmpty && !S1.2) = fi at *
  cases fi with
  | false =>
    have HW : Hid (R = (noS10, 8)) := by rw [Hid, HW0.out]; rfl
    clear HW0
    refine same_mono kf ?_
    have hbn : Below W3.heap.size W3 (W3.alloc (.cells #[.int .i64 0, .int .i64 0, .slice none 0 0, .slice none 0 0, .slice none 0 0] 27)) := (Below.refl _ _).alloc (Nat.le_refl _) _
    have hbx : SnapAt (W3.alloc (.cells #[.int .i64 0, .int .i64 0, .slice none 0 0, .slice none 0 0, .slice none 0 0] 27)) w.heap.size noSV := box_below hbox3 hbn
    have hnn : SnapAt (W3.alloc (.cells #[.int .i64 0, .int .i64 0, .slice none 0 0, .slice none 0 0, .slice none 0 0] 27)) W3.heap.size noSV := heap_alloc_new W3 _
    have hRn := hR3.more hbn
    have hGn := grown_trans hG3 (below_grownBy hbn)
    have d0 := box_cell hbx 0
    have d1 := box_cell hbx 1
    have d2 := box_cell hbx 2
    have d3 := box_cell hbx 3
    have d4 := box_cell hbx 4
    have fb := frozen9 hbx
    have hlr := box_lt hbx
    have e0 := box_cell hnn 0
    have e1 := box_cell hnn 1
    have e2 := box_cell hnn 2
    have e3 := box_cell hnn 3
    have e4 := box_cell hnn 4
    have hln := box_lt hnn
    have hMn := OwnsS.nil (W3.alloc (.cells #[.int .i64 0, .int .i64 0, .slice none 0 0, .slice none 0 0, .slice none 0 0] 27)) (w.heap.size + 1)
    dsimp only [SnapV.arr, noSV, noFV, nilS10] at d0 d1 d2 d3 d4 e0 e1 e2 e3 e4
    go_upto_region 4 with fail
    generalize W3.alloc (.cells #[.int .i64 0, .int .i64 0, .slice none 0 0, .slice none 0 0, .slice none 0 0] 27) = W9 at *
    generalize W3.heap.size = nb at *
    go_wp2
    have hF := fillS (b := w.heap.size) (x0 := noSV) hbx 0 0 none 0 0 none 0 0 none 0 0 noF10 []
    have hR9 := ((((((((((hRn).cell (b := w.heap.size) (by omega) (by omega) 0 (.int .i64 0))).cell (b := w.heap.size) (by omega) (by omega) 1 (.int .i64 0))).cell (b := w.heap.size) (by omega) (by omega) 2 (.slice none 0 0))).cell (b := w.heap.size) (by omega) (by omega) 3 (.slice none 0 0))).cell (b := w.heap.size) (by omega) (by omega) 4 (.slice none 0 0))
    have hG9 := (grown_new (b := w.heap.size) (grown_new (b := w.heap.size) (grown_new (b := w.heap.size) (grown_new (b := w.heap.size) (grown_new (b := w.heap.size) hGn (by omega) 0 (.int .i64 0)) (by omega) 1 (.int .i64 0)) (by omega) 2 (.slice none 0 0)) (by omega) 3 (.slice none 0 0)) (by omega) 4 (.slice none 0 0))
    have hO9 := ((((((((((hMn).cell (b := w.heap.size) (by omega) 0 (.int .i64 0))).cell (b := w.heap.size) (by omega) 1 (.int .i64 0))).cell (b := w.heap.size) (by omega) 2 (.slice none 0 0))).cell (b := w.heap.size) (by omega) 3 (.slice none 0 0))).cell (b := w.heap.size) (by omega) 4 (.slice none 0 0))
    refine bodyPost_ret (ret_cell9 rfl _ _ w.heap.size _ _ _ _ rfl hF Tryz.underlying27 rfl (by kernel_rfl)) rfl ⟨noSV, ?_, ?_, hO9.mono (by omega), hR9.bel, hG9⟩
    · rw [HW.out]; rfl
    · rw [HW.out]; rfl
  | true =>
    refine same_mono kf ?_
    clear kf
    replace hbn3 : SnapAt W3 bx ⟨si, st, ⟨⟨p, n, c⟩, ⟨q, m, d⟩, f⟩, ⟨a, b0, e0⟩, dd⟩ := hbn3
    have c0 := box_cell hbn3 0
    have c1 := box_cell hbn3 1
    have c2 := box_cell hbn3 2
    have c3 := box_cell hbn3 3
    have c4 := box_cell hbn3 4
    have hlx := box_lt hbn3
    dsimp only [SnapV.arr] at c0 c1 c2 c3 c4
    go_wp2_with fail
    refine kg.mono ?_
    rintro _ w4 ⟨rfl, hb4⟩
    have hbx4 : SnapAt w4 bx ⟨si, st, ⟨⟨p, n, c⟩, ⟨q, m, d⟩, f⟩, ⟨a, b0, e0⟩, dd⟩ := box_below hbn3 hb4
    have hbox4 : SnapAt w4 w.heap.size noSV := box_below hbox3 hb4
    have hR4 := hR3.more hb4
    have hG4 := grown_trans hG3 (below_grownBy hb4)
    have hM4 := hM3.below hb4
    clear kg hbn3 hbox3 hR3 hG3 hM3 hb4 c0 c1 c2 c3 c4 hlx
    cases gx with
    | false =>
      have HW : Hid (R = (noS10, 8)) := by rw [Hid, HW0.out]; rfl
      clear HW0
      have hbn : Below w4.heap.size w4 (w4.alloc (.cells #[.int .i64 0, .int .i64 0, .slice none 0 0, .slice none 0 0, .slice none 0 0] 27)) := (Below.refl _ _).alloc (Nat.le_refl _) _
      have hbx : SnapAt (w4.alloc (.cells #[.int .i64 0, .int .i64 0, .slice none 0 0, .slice none 0 0, .slice none 0 0] 27)) w.heap.size noSV := box_below hbox4 hbn
      have hnn : SnapAt (w4.alloc (.cells #[.int .i64 0, .int .i64 0, .slice none 0 0, .slice none 0 0, .slice none 0 0] 27)) w4.heap.size noSV := heap_alloc_new w4 _
      have hRn := hR4.more hbn
      have hGn := grown_trans hG4 (below_grownBy hbn)
      have d0 := box_cell hbx 0
      have d1 := box_cell hbx 1
      have d2 := box_cell hbx 2
      have d3 := box_cell hbx 3
      have d4 := box_cell hbx 4
      have fb := frozen9 hbx
      have hlr := box_lt hbx
      have e0 := box_cell hnn 0
      have e1 := box_cell hnn 1
      have e2 := box_cell hnn 2
      have e3 := box_cell hnn 3
      have e4 := box_cell hnn 4
      have hln := box_lt hnn
      have hMn := OwnsS.nil (w4.alloc (.cells #[.int .i64 0, .int .i64 0, .slice none 0 0, .slice none 0 0, .slice none 0 0] 27)) (w.heap.size + 1)
      dsimp only [SnapV.arr, noSV, noFV, nilS10] at d0 d1 d2 d3 d4 e0 e1 e2 e3 e4
      go_upto_region 4 with fail
      generalize w4.alloc (.cells #[.int .i64 0, .int .i64 0, .slice none 0 0, .slice none 0 0, .slice none 0 0] 27) = W9 at *
      generalize w4.heap.size = nb at *
      go_wp2
      have hF := fillS (b := w.heap.size) (x0 := noSV) hbx 0 0 none 0 0 none 0 0 none 0 0 noF10 []
      have hR9 := ((((((((((hRn).cell (b := w.heap.size) (by omega) (by omega) 0 (.int .i64 0))).cell (b := w.heap.size) (by omega) (by omega) 1 (.int .i64 0))).cell (b := w.heap.size) (by omega) (by omega) 2 (.slice none 0 0))).cell (b := w.heap.size) (by omega) (by omega) 3 (.slice none 0 0))).cell (b := w.heap.size) (by omega) (by omega) 4 (.slice none 0 0))
      have hG9 := (grown_new (b := w.heap.size) (grown_new (b := w.heap.size) (grown_new (b := w.heap.size) (grown_new (b := w.heap.size) (grown_new (b := w.heap.size) hGn (by omega) 0 (.int .i64 0)) (by omega) 1 (.int .i64 0)) (by omega) 2 (.slice none 0 0)) (by omega) 3 (.slice none 0 0)) (by omega) 4 (.slice none 0 0))
      have hO9 := ((((((((((hMn).cell (b := w.heap.size) (by omega) 0 (.int .i64 0))).cell (b := w.heap.size) (by omega) 1 (.int .i64 0))).cell (b := w.heap.size) (by omega) 2 (.slice none 0 0))).cell (b := w.heap.size) (by omega) 3 (.slice none 0 0))).cell (b := w.heap.size) (by omega) 4 (.slice none 0 0))
      refine bodyPost_ret (ret_cell9 rfl _ _ w.heap.size _ _ _ _ rfl hF Tryz.underlying27 rfl (by kernel_rfl)) rfl ⟨noSV, ?_, ?_, hO9.mono (by omega), hR9.bel, hG9⟩
      · rw [HW.out]; rfl
      · rw [HW.out]; rfl
    | true =>
      have HW : Hid (R = (x0, 0)) := by rw [Hid, HW0.out]; rfl
      clear HW0
      have c0 := box_cell hbx4 0
      have c1 := box_cell hbx4 1
      have c2 := box_cell hbx4 2
      have c3 := box_cell hbx4 3
      have c4 := box_cell hbx4 4
      have d0 := box_cell hbox4 0
      have d1 := box_cell hbox4 1
      have d2 := box_cell hbox4 2
      have d3 := box_cell hbox4 3
      have d4 := box_cell hbox4 4
      dsimp only [SnapV.arr, noSV, noFV, nilS10] at c0 c1 c2 c3 c4 d0 d1 d2 d3 d4
      have hlx := box_lt hbx4
      have hlr := box_lt hbox4
      have fb := frozen9 hbox4
      go_wp2
      have hF := fillS (b := w.heap.size) (x0 := noSV) hbox4 si st p n c q m d a b0 e0 f dd
      have hR9 := ((((((((((hR4).cell (b := w.heap.size) (by omega) (by omega) 0 (.int .i64 si))).cell (b := w.heap.size) (by omega) (by omega) 1 (.int .i64 st))).cell (b := w.heap.size) (by omega) (by omega) 2 (.slice p n c))).cell (b := w.heap.size) (by omega) (by omega) 3 (.slice q m d))).cell (b := w.heap.size) (by omega) (by omega) 4 (.slice a b0 e0))
      have hG9 := (grown_new (b := w.heap.size) (grown_new (b := w.heap.size) (grown_new (b := w.heap.size) (grown_new (b := w.heap.size) (grown_new (b := w.heap.size) hG4 (by omega) 0 (.int .i64 si)) (by omega) 1 (.int .i64 st)) (by omega) 2 (.slice p n c)) (by omega) 3 (.slice q m d)) (by omega) 4 (.slice a b0 e0))
      have hO9 := ((((((((((hM4).cell (b := w.heap.size) (by omega) 0 (.int .i64 si))).cell (b := w.heap.size) (by omega) 1 (.int .i64 st))).cell (b := w.heap.size) (by omega) 2 (.slice p n c))).cell (b := w.heap.size) (by omega) 3 (.slice q m d))).cell (b := w.heap.size) (by omega) 4 (.slice a b0 e0))
      refine bodyPost_ret (ret_cell9 rfl _ _ w.heap.size _ _ _ _ rfl hF Tryz.underlying27 rfl (by kernel_rfl)) rfl ⟨⟨si, st, ⟨⟨p, n, c⟩, ⟨q, m, d⟩, f⟩, ⟨a, b0, e0⟩, dd⟩, ?_, ?_, hO9.mono (by omega), hR9.bel, hG9⟩
      · rw [HW.out]; rfl
      · rw [HW.out]; exact HX.out

set_option maxRecDepth 100000 in
set_option maxHeartbeats 2000000 in
theorem rsameSnap_any (x y : SnapV) (w : World) (hx : FitsS w x) (hy : FitsS w y) : Calls Tryz.prog 14 #[.agg x.arr, .agg y.arr] w fun e w' => e = .returned (.bool (sameS10 x.s y.s)) ∧ Below w.heap.size w w' := by
  have hb1 : Below w.heap.size w (w.alloc (.cells x.arr 27)) := (Below.refl _ _).alloc (Nat.le_refl _) _
  have hz1 : (w.alloc (.cells x.arr 27)).heap.size = w.heap.size + 1 := by simp
  have hb2 := (Below.refl _ (w.alloc (.cells x.arr 27))).alloc (Nat.le_refl _) (.cells y.arr 27)
  have hbx : SnapAt (w.alloc (.cells x.arr 27)) w.heap.size x := heap_alloc_new w _
  have hby : SnapAt ((w.alloc (.cells x.arr 27)).alloc (.cells y.arr 27)) (w.heap.size + 1) y := by rw [← hz1]; exact heap_alloc_new _ _
  have hbx2 : SnapAt _ w.heap.size x := box_below hbx hb2
  have hB := hb1.trans (hb2.mono hb1.size)
  have hbz := hB.size
  have hx2 := (hx.below hb1).below hb2
  have hy2 := (hy.below hb1).below hb2
  have ks := rsameConf_any x.f y.f _ hx2.f hy2.f
  have kd : Hid (∀ W, Below w.heap.size w W → Calls Tryz.prog 9 #[.slice x.w.p x.w.n x.w.c, .slice y.w.p y.w.n y.w.c] W fun e w' => e = .returned (.bool (decide (x.d = y.d))) ∧ w' = W) := fun W h => by have := same_any (.slice x.w.p x.w.n x.w.c) (.slice y.w.p y.w.n y.w.c) x.d y.d W (hx.w.below h (Nat.le_refl _)) (hy.w.below h (Nat.le_refl _)) hx.b hy.b; rwa [show (x.d == y.d) = decide (x.d = y.d) by rw [Bool.eq_iff_iff]; simp] at this
  have HS : Hid (sameS10 x.s y.s = (decide (x.i = y.i) && decide (x.t = y.t) && sameF10 x.f.f y.f.f && decide (x.d = y.d))) := rfl
  generalize sameF10 x.f.f y.f.f = rf at *
  generalize decide (x.d = y.d) = rd at *
  generalize hr : sameS10 x.s y.s = r at *
  clear hr hx hy hb1 hb2 hx2 hy2 hbx hz1
  obtain ⟨i, t, ⟨⟨p, n, c⟩, ⟨q, m, d⟩, f⟩, ⟨a, b, e⟩, dd⟩ := x
  obtain ⟨i', t', ⟨⟨p', n', c'⟩, ⟨q', m', d'⟩, f'⟩, ⟨a', b', e'⟩, dd'⟩ := y
  unfold SnapV.arr at *
  unfold ConfV.arr at *
  dsimp only at *
  by_cases h1 : i = i'
  case neg =>
    have HF : Hid (r = false) := by rw [Hid, HS.out, decide_eq_false h1]; simp
    have e9 : (i == i') = false := by simpa using h1
    clear HS ks kd
    go_enter Tryz.func14, Tryz.ntmps14
    go_wp2
    go_ret
    rw [HF.out]
    exact ⟨rfl, hB⟩
  subst h1
  by_cases h2 : t = t'
  case neg =>
    have HF : Hid (r = false) := by rw [Hid, HS.out, decide_eq_false h2]; simp
    have e9 : (t == t') = false := by simpa using h2
    clear HS ks kd
    go_enter Tryz.func14, Tryz.ntmps14
    go_wp2
    go_ret
    rw [HF.out]
    exact ⟨rfl, hB⟩
  subst h2
  have HF : Hid (r = (rf && rd)) := by rw [Hid, HS.out, decide_eq_true rfl, decide_eq_true rfl]; rfl
  clear HS
  cases rf with
  | false =>
    go_enter Tryz.func14, Tryz.ntmps14
    go_wp2_with fail
    refine ks.mono ?_
    rintro _ w3 ⟨rfl, hb3⟩
    have hb9 := hB.trans (hb3.mono hbz)
    go_wp2
    go_ret
    rw [HF.out]
    exact ⟨rfl, hb9⟩
  | true =>
    go_enter Tryz.func14, Tryz.ntmps14
    go_wp2_with fail
    generalize (w.alloc (.cells #[.int .i64 i, .int .i64 t, .slice p n c, .slice q m d, .slice a b e] 27)).alloc (.cells #[.int .i64 i, .int .i64 t, .slice p' n' c', .slice q' m' d', .slice a' b' e'] 27) = W2 at *
    refine ks.mono ?_
    rintro _ w3 ⟨rfl, hb3⟩
    have hb9 := hB.trans (hb3.mono hbz)
    have k4 := kd.out w3 hb9
    have e1 : SnapAt w3 w.heap.size ⟨i, t, ⟨⟨p, n, c⟩, ⟨q, m, d⟩, f⟩, ⟨a, b, e⟩, dd⟩ := box_below hbx2 hb3
    have e2 : SnapAt w3 (w.heap.size + 1) ⟨i, t, ⟨⟨p', n', c'⟩, ⟨q', m', d'⟩, f'⟩, ⟨a', b', e'⟩, dd'⟩ := box_below hby hb3
    obtain ⟨c0, c1, c2, c3, c4⟩ := e1.cells
    obtain ⟨d0, d1, d2, d3, d4⟩ := e2.cells
    dsimp only at c0 c1 c2 c3 c4 d0 d1 d2 d3 d4
    have hl1 := box_lt e1
    have hl2 := box_lt e2
    clear ks hbx2 hby
    go_wp2_with fail
    refine same_mono k4 ?_
    go_wp2
    go_ret
    rw [HF.out]
    exact ⟨by simp, hb9⟩

end Go.Proofs.YthlelcmifolnfaaGreatDoor

namespace Go.Proofs.YthlelcmifolnfaaGreatDoor
open Go.RowKit
attribute [local go_sem ↓] ldS_exec ldS_run stS_exec stS_run oc_int oc_bool oc_string oc_slice oc_pointer
theorem snapB_big {s : Snap10} (h : FewF s.f) (hd : s.d.length ≤ 1048576) : (snapB s).length ≤ 1100000 := by
  unfold snapB
  have h1 := zigB_le s.i
  have h2 := zigB_le s.t
  have h3 := confB_len h
  have h4 := bytB_len s.d
  simp only [List.length_append]
  omega
set_option maxRecDepth 100000 in
set_option maxHeartbeats 2000000 in
theorem putSnap_big (w0 w : World) (v : Value) (xs : List Int) (x : SnapV) (h : Put10 w0 w v xs) (hF : FitsS w0 x) (hf : FewF x.f.f) (hd : x.d.length ≤ 1048576) (hl : xs.length ≤ 1073000000) :
    Calls Tryz.prog 143 #[v, .agg x.arr] w (Puts w0 w (xs ++ snapB x.s)) := by
  have hb1 : Below w.heap.size w (w.alloc (.cells x.arr 27)) := (Below.refl _ _).alloc (Nat.le_refl _) _
  have hbox : SnapAt (w.alloc (.cells x.arr 27)) w.heap.size x := heap_alloc_new w _
  have hz1 : (w.alloc (.cells x.arr 27)).heap.size = w.heap.size + 1 := by simp
  have hP1 := h.more hb1
  have HN : Hid (numsB [x.i, x.t] = zigB x.i ++ zigB x.t) := by simp [Hid, numsB]
  have HE : Hid (xs ++ snapB x.s = xs ++ numsB [x.i, x.t] ++ confB x.f.f ++ bytB x.d) := by
    rw [Hid, HN.out]
    unfold snapB SnapV.s
    dsimp only
    simp only [List.append_assoc]
  have hl1 : (numsB [x.i, x.t]).length ≤ 18 := numsB_len _
  have hl2 := confB_len hf
  have kt : Hid (∀ W u t, Put10 w0 W u (xs ++ numsB [x.i, x.t] ++ confB x.f.f) → Has W t x.d → Calls Tryz.prog 178 #[u, t] W (Puts w0 W (xs ++ numsB [x.i, x.t] ++ confB x.f.f ++ bytB x.d))) := fun W u t hP ht => putTextE_any w0 W u t _ _ hP ht hF.b (by rw [List.length_append, List.length_append]; omega) (by omega)
  have kf : Hid (∀ W u, Put10 w0 W u (xs ++ numsB [x.i, x.t]) → Calls Tryz.prog 177 #[u, .agg x.f.arr] W (Puts w0 W (xs ++ numsB [x.i, x.t] ++ confB x.f.f))) := fun W u hP => putConf_any w0 W u _ x.f hP hF.f hf (by rw [List.length_append]; omega)
  have kn := fun W (hP : Put10 w0 W v xs) R (hR : W.heap[R]? = some (.cells ([x.i, x.t].map (Value.int .i64)).toArray 3 (0, 0))) => putNumbers_any w0 W v xs [x.i, x.t] R 2 hP hR rfl (by omega) (by omega)
  have HKN : Hid _ := kn
  have HD : Hid (Has w0 (.slice x.w.p x.w.n x.w.c) x.d) := hF.w
  clear kn h hl hd hf hF HN
  generalize numsB [x.i, x.t] = ns at *
  generalize confB x.f.f = fb at *
  generalize hbs : snapB x.s = bs at *
  clear hbs
  obtain ⟨i, t, ⟨⟨p, n, c⟩, ⟨q, m, d⟩, f⟩, ⟨a, b, e⟩, dd⟩ := x
  unfold SnapV.arr ConfV.arr at *
  dsimp only at *
  have hr := heap_alloc_new (w.alloc (.cells #[.int .i64 i, .int .i64 t, .slice p n c, .slice q m d, .slice a b e] 27)) (.cells #[.int .i64 i, .int .i64 t] 3)
  have hb2 := (Below.refl _ (w.alloc (.cells #[.int .i64 i, .int .i64 t, .slice p n c, .slice q m d, .slice a b e] 27))).alloc (Nat.le_refl _) (.cells #[.int .i64 i, .int .i64 t] 3)
  rw [hz1] at hr
  have hP2 := hP1.more hb2
  have k1 := HKN.out _ hP2 (w.heap.size + 1) hr
  have hbox2 := box_below hbox hb2
  have hkk := (Kin8.below hb1).trans (Kin8.below hb2)
  clear hP1 hbox hr HKN hP2 hb2
  go_enter Tryz.func143, Tryz.ntmps143
  go_wp2_with fail
  generalize (w.alloc (.cells #[.int .i64 i, .int .i64 t, .slice p n c, .slice q m d, .slice a b e] 27)).alloc (.cells #[.int .i64 i, .int .i64 t] 3) = W2 at *
  refine k1.mono ?_
  rintro e' w3 ⟨v3, rfl, hP3, hk3⟩
  have hbox3 : SnapAt w3 w.heap.size ⟨i, t, ⟨⟨p, n, c⟩, ⟨q, m, d⟩, f⟩, ⟨a, b, e⟩, dd⟩ := hk3 _ _ _ _ hbox2 (by decide)
  obtain ⟨c0, c1, c2, c3, c4⟩ := hbox3.cells
  dsimp only at c0 c1 c2 c3 c4
  have hlt := box_lt hbox3
  have hk4 := hkk.trans hk3
  have k5 := kf.out w3 v3 hP3
  clear k1 hbox2 hkk hk3 hb1
  go_wp2_with fail
  refine k5.mono ?_
  rintro e' w5 ⟨v5, rfl, hP5, hk5⟩
  have hbox5 : SnapAt w5 w.heap.size ⟨i, t, ⟨⟨p, n, c⟩, ⟨q, m, d⟩, f⟩, ⟨a, b, e⟩, dd⟩ := hk5 _ _ _ _ hbox3 (by decide)
  have k6 := kt.out w5 v5 (.slice a b e) hP5 (HD.out.below hP5.bel (Nat.le_refl _))
  clear c0 c1 c2 c3 c4 k5 hbox3 hlt
  obtain ⟨c0, c1, c2, c3, c4⟩ := hbox5.cells
  dsimp only at c0 c1 c2 c3 c4
  have hlt := box_lt hbox5
  go_wp2_with fail
  refine k6.mono ?_
  rintro e' w6 ⟨v6, rfl, hP6, hk6⟩
  go_wp2
  go_ret
  exact ⟨_, rfl, by rw [HE.out]; exact hP6, (hk4.trans hk5).trans hk6⟩

set_option maxRecDepth 100000 in
set_option maxHeartbeats 1500000 in
theorem bytesS_big (w : World) (x : SnapV) (hF : FitsS w x) (hf : FewF x.f.f) (hd : x.d.length ≤ 1048576) :
    Calls Tryz.prog 105 #[.agg x.arr] w fun e w' => ∃ v, e = .returned v ∧ Owns w' w.heap.size 5 v (snapB x.s) ∧ Below w.heap.size w w' := by
  have hb1 : Below w.heap.size w (w.alloc (.cells x.arr 27)) := (Below.refl _ _).alloc (Nat.le_refl _) _
  have k1 := putSnap_big w (w.alloc (.cells x.arr 27)) (.slice none 0 0) [] x ((Put10.nil w).more hb1) hF hf hd (by simp)
  rw [List.nil_append] at k1
  generalize snapB x.s = bs at *
  obtain ⟨i, t, ⟨⟨p, n, c⟩, ⟨q, m, d⟩, f⟩, ⟨a, b, e⟩, dd⟩ := x
  unfold SnapV.arr at *
  dsimp only at *
  clear hF hf hd
  go_enter Tryz.func105, Tryz.ntmps105
  go_wp2_with fail
  refine k1.mono ?_
  rintro e w3 ⟨v3, rfl, hP3, hk3⟩
  go_wp2
  go_ret
  exact ⟨_, rfl, hP3.own, hP3.bel⟩
end Go.Proofs.YthlelcmifolnfaaGreatDoor

namespace Go.Proofs.YthlelcmifolnfaaGreatDoor
open Go.RowKit Go.Shelf
attribute [local go_sem ↓] ldS_exec ldS_run stS_exec stS_run oc_int oc_bool oc_string oc_slice oc_pointer
set_option maxRecDepth 100000 in
set_option maxHeartbeats 4000000 in
theorem readS_own (v : Value) (xs : List Int) (w : World) (hv : Has w v xs) (hB : IsB xs) (hl : xs.length ≤ 1073741824) :
    Calls Tryz.prog 53 #[v] w fun e w' => ∃ X : SnapV, e = .returned (.tuple #[.agg X.arr, .int .i64 (whole10 goodS10 noS10 (snap10 9 (xs, false))).2]) ∧ X.s = (whole10 goodS10 noS10 (snap10 9 (xs, false))).1 ∧ OwnsS w' w.heap.size X ∧ Below w.heap.size w w' := by
  have hmf : ∀ (fn : Fn) (first cap : Array Value) (w : World), (Instr.makeFunc fn first cap).run Tryz.prog w = .ok (.func fn first cap) w := fun _ _ _ _ => rfl
  have hb1 : Below w.heap.size w (w.alloc (.cells #[.int .i64 0, .int .i64 0, .slice none 0 0, .slice none 0 0, .slice none 0 0] 27)) := (Below.refl _ _).alloc (Nat.le_refl _) _
  have hbox : SnapAt (w.alloc (.cells #[.int .i64 0, .int .i64 0, .slice none 0 0, .slice none 0 0, .slice none 0 0] 27)) w.heap.size noSV := heap_alloc_new w _
  have hz1 : (w.alloc (.cells #[.int .i64 0, .int .i64 0, .slice none 0 0, .slice none 0 0, .slice none 0 0] 27)).heap.size = w.heap.size + 1 := by simp
  have hR := Rdr.make hb1 hv hB hl 176
  have hsl : ∃ p n c, v = .slice p n c := by
    obtain ⟨p, c, hp, -⟩ := hv
    exact ⟨p, _, c, hp⟩
  have k1 := readerOf_any v (w.alloc (.cells #[.int .i64 0, .int .i64 0, .slice none 0 0, .slice none 0 0, .slice none 0 0] 27)) hsl
  have hb2 : Below (w.alloc (.cells #[.int .i64 0, .int .i64 0, .slice none 0 0, .slice none 0 0, .slice none 0 0] 27)).heap.size (w.alloc (.cells #[.int .i64 0, .int .i64 0, .slice none 0 0, .slice none 0 0, .slice none 0 0] 27)) ((w.alloc (.cells #[.int .i64 0, .int .i64 0, .slice none 0 0, .slice none 0 0, .slice none 0 0] 27)).alloc (.cells #[v, .bool false] 176)) := (Below.refl _ _).alloc (Nat.le_refl _) _
  have hbox2 : SnapAt _ w.heap.size noSV := box_below hbox hb2
  have hwz : w.heap.size < ((w.alloc (.cells #[.int .i64 0, .int .i64 0, .slice none 0 0, .slice none 0 0, .slice none 0 0] 27)).alloc (.cells #[v, .bool false] 176)).heap.size := by simp; omega
  have k2 := wholeS_any w _ _ (xs, false) hR
  generalize whole10 goodS10 noS10 (snap10 9 (xs, false)) = R at *
  obtain ⟨x0, err⟩ := R
  dsimp only at k2
  obtain ⟨p0, n0, c0_, rfl⟩ := hsl
  rw [hz1] at k2 k1
  clear hR hv hB hbox hb2
  go_enter Tryz.func53, Tryz.ntmps53
  go_wp2_with fail
  refine k1.mono ?_
  rintro _ w2 ⟨rfl, rfl⟩
  clear k1
  go_wp2_with fail
  generalize (w.alloc (.cells #[.int .i64 0, .int .i64 0, .slice none 0 0, .slice none 0 0, .slice none 0 0] 27)).alloc (.cells #[.slice p0 n0 c0_, .bool false] 176) = W2 at *
  refine k2.mono ?_
  rintro _ w3 ⟨X, rfl, hX, hM, hb3, hg3⟩
  have hbox3 : SnapAt w3 w.heap.size noSV := grown_box hg3 hbox2 (by omega)
  have HX : Hid (X.s = x0) := hX
  clear k2 hbox2 hX
  obtain ⟨si, st, ⟨⟨p, n, c⟩, ⟨q, m, d⟩, f⟩, ⟨a, b0, e0⟩, dd⟩ := X
  unfold SnapV.arr
  dsimp only
  have d0 := box_cell hbox3 0
  have d1 := box_cell hbox3 1
  have d2 := box_cell hbox3 2
  have d3 := box_cell hbox3 3
  have d4 := box_cell hbox3 4
  dsimp only [SnapV.arr, noSV, noFV, nilS10] at d0 d1 d2 d3 d4
  have hlr := box_lt hbox3
  have fb := frozen9 hbox3
  go_wp2
  have hF := fillS (b := w.heap.size) (x0 := noSV) hbox3 si st p n c q m d a b0 e0 f dd
  have hO9 := ((((((((((hM).cell (b := w.heap.size) (by omega) 0 (.int .i64 si))).cell (b := w.heap.size) (by omega) 1 (.int .i64 st))).cell (b := w.heap.size) (by omega) 2 (.slice p n c))).cell (b := w.heap.size) (by omega) 3 (.slice q m d))).cell (b := w.heap.size) (by omega) 4 (.slice a b0 e0))
  have hB9 : Below w.heap.size w _ := (((((hb3.setCell (p := ⟨w.heap.size, 0, none⟩) (Nat.le_refl _) (.int .i64 si)).setCell (p := ⟨w.heap.size, 1, none⟩) (Nat.le_refl _) (.int .i64 st)).setCell (p := ⟨w.heap.size, 2, none⟩) (Nat.le_refl _) (.slice p n c)).setCell (p := ⟨w.heap.size, 3, none⟩) (Nat.le_refl _) (.slice q m d)).setCell (p := ⟨w.heap.size, 4, none⟩) (Nat.le_refl _) (.slice a b0 e0))
  exact bodyPost_ret (ret_cell9 rfl _ _ w.heap.size _ _ _ _ rfl hF Tryz.underlying27 rfl (by kernel_rfl)) rfl ⟨⟨si, st, ⟨⟨p, n, c⟩, ⟨q, m, d⟩, f⟩, ⟨a, b0, e0⟩, dd⟩, rfl, HX.out, hO9.mono (by omega), hB9⟩
theorem Has.grownB {w w' : World} {B r : Nat} {v : Value} {xs : List Int} (h : Has w v xs) (hk : ∀ k, v.ownBlock = some k → B ≤ k) (hg : w.grownBy w' (some r)) (hr : r < B) : Has w' v xs := by
  obtain ⟨p, c, rfl, h1, h2, h3⟩ := h
  refine ⟨p, c, rfl, h1, h2, fun h0 => ?_⟩
  obtain ⟨b, o, rfl, hb, hc⟩ := h3 h0
  have hB := hk b rfl
  refine ⟨b, o, rfl, Nat.lt_of_lt_of_le hb hg.size, fun i hi => ?_⟩
  rw [← hc i hi]
  unfold World.cell?
  dsimp only
  rw [hg.block b hb (by intro e; have := Option.some.inj e; omega)]
structure LiesS (w : World) (B : Nat) (x : SnapV) : Prop where
  i : inI x.i
  t : inI x.t
  f : OwnsF w B x.f
  w : Has w (.slice x.w.p x.w.n x.w.c) x.d
  k : ∀ k, Value.ownBlock (.slice x.w.p x.w.n x.w.c) = some k → B ≤ k
  b : IsB x.d
  l : x.d.length ≤ 1073741824
theorem LiesS.fits {w : World} {B : Nat} {x : SnapV} (h : LiesS w B x) : FitsS w x := ⟨h.i, h.t, h.f.fits, h.w, h.b, Nat.le_trans h.l (by decide)⟩
theorem LiesS.mono {w : World} {B B' : Nat} {x : SnapV} (h : LiesS w B x) (hB : B' ≤ B) : LiesS w B' x := ⟨h.i, h.t, h.f.mono hB, h.w, fun k hk => Nat.le_trans hB (h.k k hk), h.b, h.l⟩
theorem LiesS.kept {w w' : World} {B r : Nat} {x : SnapV} (h : LiesS w B x) (hg : w.grownBy w' (some r)) (hr : r < B) : LiesS w' B x := ⟨h.i, h.t, h.f.kept hg hr, h.w.grownB h.k hg hr, h.k, h.b, h.l⟩
theorem LiesS.cell {w : World} {B b : Nat} {x : SnapV} (h : LiesS w B x) (hb : b < B) (i : Nat) (v : Value) : LiesS (w.setCell ⟨b, i, none⟩ v) B x := h.kept (grown_set w b i v) hb
theorem LiesS.below {w w' : World} {B : Nat} {x : SnapV} (h : LiesS w B x) (hb : Below w.heap.size w w') : LiesS w' B x := ⟨h.i, h.t, h.f.below hb, h.w.below hb (Nat.le_refl _), h.k, h.b, h.l⟩
theorem LiesS.nil (w : World) (B : Nat) : LiesS w B noSV := ⟨⟨by decide, by decide⟩, ⟨by decide, by decide⟩, OwnsF.nil w B, Has.nil w, (fun _ h => by cases h), IsB.nil, Nat.zero_le _⟩
def TellsS (w0 w : World) (rb : Nat) (R : Snap10 × St) (e : Ending) (w' : World) : Prop := ∃ (X : SnapV) (S' : St), e = .returned (.agg X.arr) ∧ LiesS w' w.heap.size X ∧ Tell10 R X.s S' ∧ Left10 w0 w rb S' w'
theorem snap10_tell {m : Int} {S0 S1 S2 S3 : St} {i t : Int} {f : Conf10} (e0 : int9 S0 = (i, S1)) (e1 : int9 S1 = (t, S2)) (ht : Tell10 (conf10 m S2) f S3) : Tell10 (snap10 m S0) ⟨i, t, f, (byt10 S3).1⟩ (byt10 S3).2 := by
  rw [snap10_bind, bindR_eq e0, bindR_eq e1]
  exact Tell10.bind ht (.inl rfl) (fun _ => stays_byt.bind fun _ => Stays.ret _) fun hw => stays_byt _ hw


set_option maxRecDepth 100000 in
set_option maxHeartbeats 4000000 in
theorem rsnapR_any (w0 w : World) (rb : Nat) (S0 : St) (h : Rdr w0 w rb S0) :
    Calls Tryz.prog 121 #[.pointer (some ⟨rb, 0, none⟩)] w (TellsS w0 w rb (snap10 1000000 S0)) := by
  have h0 : RdX w0 w _ rb S0 27 #[.int .i64 0, .int .i64 0, .slice none 0 0, .slice none 0 0, .slice none 0 0] #[.int .i64 0, .int .i64 0, .slice none 0 0, .slice none 0 0, .slice none 0 0] := RdX.new h 27 #[.int .i64 0, .int .i64 0, .slice none 0 0, .slice none 0 0, .slice none 0 0]
  have hrl := h.lt
  clear h
  generalize hR : snap10 1000000 S0 = R
  have HR : Hid (snap10 1000000 S0 = R) := hR
  clear hR
  go_enter Tryz.func121, Tryz.ntmps121
  have ki0 := h0.r.rint
  have HI0 : Hid (inI (int9 S0).1) := int9_in _
  go_wp2_with fail
  refine ki0.mono ?_
  rintro _ y0 ⟨rfl, hl0⟩
  have g0 := h0.left hl0
  clear h0 ki0 hl0
  generalize hA : int9 S0 = A at *
  obtain ⟨z0, S1⟩ := A
  have E0 : Hid (int9 S0 = (z0, S1)) := hA
  clear hA
  dsimp only at g0 HI0
  have c0 := box_cell g0.box 0
  have fb := frozen9 g0.box
  have hlb := box_lt g0.box
  go_upto_region 3 with fail
  have h1 : RdX w0 w _ rb S1 27 #[.int .i64 z0, .int .i64 0, .slice none 0 0, .slice none 0 0, .slice none 0 0] #[.int .i64 0, .int .i64 0, .slice none 0 0, .slice none 0 0, .slice none 0 0] := g0.put 0 (.int .i64 z0) (by show 0 < 5; omega)
  clear g0 c0 fb hlb
  generalize y0.setCell ⟨w.heap.size + 1, 0, none⟩ (.int .i64 z0) = X0 at *
  have ki1 := h1.r.rint
  have HI1 : Hid (inI (int9 S1).1) := int9_in _
  go_wp2_with fail
  refine ki1.mono ?_
  rintro _ y1 ⟨rfl, hl1⟩
  have g1 := h1.left hl1
  clear h1 ki1 hl1
  generalize hA : int9 S1 = A at *
  obtain ⟨z1, S2⟩ := A
  have E1 : Hid (int9 S1 = (z1, S2)) := hA
  clear hA
  dsimp only at g1 HI1
  have c1 := box_cell g1.box 1
  have fb := frozen9 g1.box
  have hlb := box_lt g1.box
  go_upto_region 4 with fail
  have h2 : RdX w0 w _ rb S2 27 #[.int .i64 z0, .int .i64 z1, .slice none 0 0, .slice none 0 0, .slice none 0 0] #[.int .i64 0, .int .i64 0, .slice none 0 0, .slice none 0 0, .slice none 0 0] := g1.put 1 (.int .i64 z1) (by show 1 < 5; omega)
  clear g1 c1 fb hlb
  generalize y1.setCell ⟨w.heap.size + 1, 1, none⟩ (.int .i64 z1) = X1 at *
  have kc := rconfR_any w0 X1 rb S2 h2.r
  have hb3 := box_lt h2.box
  go_wp2_with fail
  refine kc.mono ?_
  rintro _ y4 ⟨X, S3, rfl, hO4, hT4, hl4⟩
  have h4 := h2.left hl4
  have HT : Hid (Tell10 R ⟨z0, z1, X.f, (byt10 S3).1⟩ (byt10 S3).2) := by
    rw [Hid, ← HR.out]
    exact snap10_tell E0.out E1.out hT4
  clear kc h2 hl4 hT4 HR E0 E1
  obtain ⟨⟨p, n, c⟩, ⟨q, m, d⟩, f⟩ := X
  unfold ConfV.arr
  dsimp only at HT ⊢
  have c2 := box_cell h4.box 2
  have c3 := box_cell h4.box 3
  have fb := frozen9 h4.box
  have hlb := box_lt h4.box
  go_upto_region 5 with fail
  have h5 : RdX w0 w _ rb S3 27 #[.int .i64 z0, .int .i64 z1, .slice p n c, .slice q m d, .slice none 0 0] #[.int .i64 0, .int .i64 0, .slice none 0 0, .slice none 0 0, .slice none 0 0] := (h4.put 2 (.slice p n c) (by show 2 < 5; omega)).put 3 (.slice q m d) (by show 3 < 5; omega)
  have hO5 := ((hO4.cell (b := w.heap.size + 1) (by omega) 2 (.slice p n c)).cell (b := w.heap.size + 1) (by omega) 3 (.slice q m d)).mono (B' := w.heap.size + 1 + 1) (by omega)
  clear h4 hO4 c2 c3 fb hlb
  generalize (y4.setCell ⟨w.heap.size + 1, 2, none⟩ (.slice p n c)).setCell ⟨w.heap.size + 1, 3, none⟩ (.slice q m d) = X5 at *
  have kt := h5.r.rtext
  have HB : Hid (IsB (byt10 S3).1) := byt10_isB h5.r.isb
  have HLen : Hid ((byt10 S3).1.length ≤ 1073741824) := Nat.le_trans (byt10_len S3) h5.r.len
  have HTx : Hid (strB (strOfNums (byt10 S3).1) = (byt10 S3).1) := strB_of HB.out
  generalize byt10 S3 = A at *
  obtain ⟨xs, S4⟩ := A
  dsimp only at kt HT HB HLen HTx
  generalize strOfNums xs = sx at *
  have hlb5 := box_lt h5.box
  go_wp2_with fail
  refine kt.mono ?_
  rintro _ w6 ⟨rfl, hl6⟩
  have h6 := h5.left hl6
  have hO6 := hO5.kept hl6.2 (by omega)
  have hcv := Lib.run_convert_string_bytes (P := Tryz.prog) w6 9 25 5 sx (u := .string) Tryz.underlying9 Tryz.underlying25 Tryz.underlying5
  obtain ⟨hH, hb7⟩ := bytes_has w6 sx
  rw [HTx.out] at hH
  have h7 := h6.more hb7
  have hO7 := hO6.below hb7
  have hlb6 := box_lt h6.box
  clear kt h5 hO5 hl6 h6 hO6 hb7 HTx hlb5
  generalize Lib.bytesWorld w6 5 sx = W7 at *
  generalize grownCap w6 sx.size 0 5 = e0 at *
  generalize sx.size = b0 at *
  generalize hbb : w6.heap.size = bb at *
  have hbb2 : w.heap.size + 1 < bb := by omega
  clear hbb
  have c4 := box_cell h7.box 4
  have fb := frozen9 h7.box
  have hlb := box_lt h7.box
  go_upto_region 6 with fail
  have hx : RdX w0 w _ rb S4 27 #[.int .i64 z0, .int .i64 z1, .slice p n c, .slice q m d, .slice (some ⟨bb, 0, none⟩) b0 e0] #[.int .i64 0, .int .i64 0, .slice none 0 0, .slice none 0 0, .slice none 0 0] := h7.put 4 (.slice (some ⟨bb, 0, none⟩) b0 e0) (by show 4 < 5; omega)
  have hS7 : LiesS W7 (w.heap.size + 1 + 1) ⟨z0, z1, ⟨⟨p, n, c⟩, ⟨q, m, d⟩, f⟩, ⟨some ⟨bb, 0, none⟩, b0, e0⟩, xs⟩ := ⟨HI0.out, HI1.out, hO7, hH, (fun k hk => by have := Option.some.inj hk; dsimp only at this; omega), HB.out, HLen.out⟩
  have hS9 := hS7.cell (b := w.heap.size + 1) (by omega) 4 (.slice (some ⟨bb, 0, none⟩) b0 e0)
  clear h7 hO7 hH c4 fb hlb hS7 hcv
  generalize ha : some (⟨bb, 0, none⟩ : Addr) = a at *
  clear ha
  generalize W7.setCell ⟨w.heap.size + 1, 4, none⟩ (.slice a b0 e0) = X9 at *
  have c0 := box_cell hx.box 0
  have d0 := box_cell hx.res 0
  have c1 := box_cell hx.box 1
  have d1 := box_cell hx.res 1
  have c2 := box_cell hx.box 2
  have d2 := box_cell hx.res 2
  have c3 := box_cell hx.box 3
  have d3 := box_cell hx.res 3
  have c4 := box_cell hx.box 4
  have d4 := box_cell hx.res 4
  have fb := frozen9 hx.res
  have hlb := box_lt hx.box
  have hlr := box_lt hx.res
  go_wp2
  have hF := fillS (b := w.heap.size) (x0 := noSV) hx.res z0 z1 p n c q m d a b0 e0 f xs
  have hR9 := ((((((((((hx.r).cell (b := w.heap.size) (by omega) (by omega) 0 (.int .i64 z0))).cell (b := w.heap.size) (by omega) (by omega) 1 (.int .i64 z1))).cell (b := w.heap.size) (by omega) (by omega) 2 (.slice p n c))).cell (b := w.heap.size) (by omega) (by omega) 3 (.slice q m d))).cell (b := w.heap.size) (by omega) (by omega) 4 (.slice a b0 e0))
  have hG9 := (grown_new (b := w.heap.size) (grown_new (b := w.heap.size) (grown_new (b := w.heap.size) (grown_new (b := w.heap.size) (grown_new (b := w.heap.size) hx.g (by omega) 0 (.int .i64 z0)) (by omega) 1 (.int .i64 z1)) (by omega) 2 (.slice p n c)) (by omega) 3 (.slice q m d)) (by omega) 4 (.slice a b0 e0))
  have hO9 := ((((((((((hS9).cell (b := w.heap.size) (by omega) 0 (.int .i64 z0))).cell (b := w.heap.size) (by omega) 1 (.int .i64 z1))).cell (b := w.heap.size) (by omega) 2 (.slice p n c))).cell (b := w.heap.size) (by omega) 3 (.slice q m d))).cell (b := w.heap.size) (by omega) 4 (.slice a b0 e0))
  exact bodyPost_ret (ret_one rfl _ _ w.heap.size _ _ _ _ rfl hF Tryz.underlying27 rfl (by kernel_rfl)) rfl ⟨⟨z0, z1, ⟨⟨p, n, c⟩, ⟨q, m, d⟩, f⟩, ⟨a, b0, e0⟩, xs⟩, S4, rfl, hO9.mono (by omega), HT.out, hR9, hG9⟩
set_option maxRecDepth 100000 in
set_option maxHeartbeats 4000000 in
theorem rreadS_own (v : Value) (xs : List Int) (w : World) (hv : Has w v xs) (hB : IsB xs) (hl : xs.length ≤ 1073741824) :
    Calls Tryz.prog 56 #[v] w fun e w' => ∃ X : SnapV, e = .returned (.tuple #[.agg X.arr, .int .i64 (whole10 goodS10 noS10 (snap10 9 (xs, false))).2]) ∧ X.s = (whole10 goodS10 noS10 (snap10 9 (xs, false))).1 ∧ LiesS w' w.heap.size X ∧ Below w.heap.size w w' := by
  have hb1 : Below w.heap.size w (w.alloc (.cells #[.int .i64 0, .int .i64 0, .slice none 0 0, .slice none 0 0, .slice none 0 0] 27)) := (Below.refl _ _).alloc (Nat.le_refl _) _
  have hbox : SnapAt (w.alloc (.cells #[.int .i64 0, .int .i64 0, .slice none 0 0, .slice none 0 0, .slice none 0 0] 27)) w.heap.size noSV := heap_alloc_new w _
  have hz1 : (w.alloc (.cells #[.int .i64 0, .int .i64 0, .slice none 0 0, .slice none 0 0, .slice none 0 0] 27)).heap.size = w.heap.size + 1 := by simp
  have hR := Rdr.make hb1 hv hB hl 157
  have hsl : ∃ p n c, v = .slice p n c := by
    obtain ⟨p, c, hp, -⟩ := hv
    exact ⟨p, _, c, hp⟩
  have hb2 : Below (w.alloc (.cells #[.int .i64 0, .int .i64 0, .slice none 0 0, .slice none 0 0, .slice none 0 0] 27)).heap.size (w.alloc (.cells #[.int .i64 0, .int .i64 0, .slice none 0 0, .slice none 0 0, .slice none 0 0] 27)) ((w.alloc (.cells #[.int .i64 0, .int .i64 0, .slice none 0 0, .slice none 0 0, .slice none 0 0] 27)).alloc (.cells #[v, .bool false] 157)) := (Below.refl _ _).alloc (Nat.le_refl _) _
  have hbox2 : SnapAt _ w.heap.size noSV := box_below hbox hb2
  have hz2 : ((w.alloc (.cells #[.int .i64 0, .int .i64 0, .slice none 0 0, .slice none 0 0, .slice none 0 0] 27)).alloc (.cells #[v, .bool false] 157)).heap.size = w.heap.size + 2 := by simp
  have k1 := rsnapR_any w _ _ (xs, false) hR
  have HW1 : Hid (∀ x S', Tell10 (snap10 1000000 (xs, false)) x S' → whole10 goodS10 noS10 (snap10 9 (xs, false)) = if (S'.1.isEmpty && !S'.2) && goodS10 x then (x, 0) else (noS10, 8)) := fun x S' ht => by
    rw [(snap10_sim 1000000 (by decide)).whole noS10 (xs, false), ← ht.whole]
    rfl
  generalize whole10 goodS10 noS10 (snap10 9 (xs, false)) = R at *
  obtain ⟨p0, n0, c0_, rfl⟩ := hsl
  rw [hz1] at k1 hR
  clear hR hv hB hbox hb2 hb1 hz1
  go_enter Tryz.func56, Tryz.ntmps56
  go_wp2_with fail
  generalize (w.alloc (.cells #[.int .i64 0, .int .i64 0, .slice none 0 0, .slice none 0 0, .slice none 0 0] 27)).alloc (.cells #[.slice p0 n0 c0_, .bool false] 157) = W2 at *
  refine k1.mono ?_
  rintro _ w3 ⟨X, S1, rfl, hM, hT, hR3, hg3⟩
  have hbox3 : SnapAt w3 w.heap.size noSV := grown_box hg3 hbox2 (by omega)
  have hsz3 := hg3.size
  have HW0 : Hid (R = if (S1.1.isEmpty && !S1.2) && goodS10 X.s then (X.s, 0) else (noS10, 8)) := HW1.out _ _ hT
  have hb4 : Below w3.heap.size w3 (w3.alloc (.cells X.arr 27)) := (Below.refl _ _).alloc (Nat.le_refl _) _
  have hbn : SnapAt (w3.alloc (.cells X.arr 27)) w3.heap.size X := heap_alloc_new w3 _
  have hbox4 := box_below hbox3 hb4
  have hR4 := hR3.more hb4
  have hM4 := hM.below hb4
  have kg := rgoodSnap_any X _ hM4.fits
  have kf := hR4.rfin
  have HX : Hid (X.s = X.s) := rfl
  clear k1 hbox2 hbox3 hM hT hR3 hg3 hb4 HW1
  generalize hgx : goodS10 X.s = gx at *
  clear hgx
  generalize hx0 : X.s = x0 at *
  replace HX : Hid (X.s = x0) := hx0
  clear hx0
  obtain ⟨si, st, ⟨⟨p, n, c⟩, ⟨q, m, d⟩, f⟩, ⟨a, b0, e0⟩, dd⟩ := X
  unfold SnapV.arr at *
  dsimp only at *
  go_wp2_with fail
  generalize w3.alloc (.cells #[.int .i64 si, .int .i64 st, .slice p n c, .slice q m d, .slice a b0 e0] 27) = W4 at *
  replace hbox4 : SnapAt W4 w.heap.size noSV := hbox4
  replace hbn : SnapAt W4 w3.heap.size ⟨si, st, ⟨⟨p, n, c⟩, ⟨q, m, d⟩, f⟩, ⟨a, b0, e0⟩, dd⟩ := hbn
  generalize hbx : w3.heap.size = bx at *
  clear hbx
  generalize hfi : (S1.1.isEmpty && !S1.2) = fi at *
  clear hfi
  cases fi with
  | false =>
    have HW : Hid (R = (noS10, 8)) := by rw [Hid, HW0.out]; rfl
    clear HW0
    refine same_mono kf ?_
    have d0 := box_cell hbox4 0
    have d1 := box_cell hbox4 1
    have d2 := box_cell hbox4 2
    have d3 := box_cell hbox4 3
    have d4 := box_cell hbox4 4
    have fb := frozen9 hbox4
    have hlr := box_lt hbox4
    dsimp only [SnapV.arr, noSV, noFV, nilS10] at d0 d1 d2 d3 d4
    go_wp2
    have hF := fillS (b := w.heap.size) (x0 := noSV) hbox4 0 0 none 0 0 none 0 0 none 0 0 noF10 []
    have hB9 : Below w.heap.size w _ := (((((hR4.bel.setCell (p := ⟨w.heap.size, 0, none⟩) (Nat.le_refl _) (.int .i64 0)).setCell (p := ⟨w.heap.size, 1, none⟩) (Nat.le_refl _) (.int .i64 0)).setCell (p := ⟨w.heap.size, 2, none⟩) (Nat.le_refl _) (.slice none 0 0)).setCell (p := ⟨w.heap.size, 3, none⟩) (Nat.le_refl _) (.slice none 0 0)).setCell (p := ⟨w.heap.size, 4, none⟩) (Nat.le_refl _) (.slice none 0 0))
    refine bodyPost_ret (ret_cell9 rfl _ _ w.heap.size _ _ _ _ rfl hF Tryz.underlying27 rfl (by kernel_rfl)) rfl ⟨noSV, ?_, ?_, LiesS.nil _ w.heap.size, hB9⟩
    · rw [HW.out]; rfl
    · rw [HW.out]; rfl
  | true =>
    refine same_mono kf ?_
    clear kf
    have c0 := box_cell hbn 0
    have c1 := box_cell hbn 1
    have c2 := box_cell hbn 2
    have c3 := box_cell hbn 3
    have c4 := box_cell hbn 4
    have hlx := box_lt hbn
    dsimp only [SnapV.arr] at c0 c1 c2 c3 c4
    go_wp2_with fail
    refine kg.mono ?_
    rintro _ w5 ⟨rfl, hb5⟩
    have hbn5 : SnapAt w5 bx ⟨si, st, ⟨⟨p, n, c⟩, ⟨q, m, d⟩, f⟩, ⟨a, b0, e0⟩, dd⟩ := box_below hbn hb5
    have hbox5 : SnapAt w5 w.heap.size noSV := box_below hbox4 hb5
    have hR5 := hR4.more hb5
    have hM5 := hM4.below hb5
    clear kg hbn hbox4 hR4 hM4 hb5 c0 c1 c2 c3 c4 hlx
    cases gx with
    | false =>
      have HW : Hid (R = (noS10, 8)) := by rw [Hid, HW0.out]; rfl
      clear HW0
      have d0 := box_cell hbox5 0
      have d1 := box_cell hbox5 1
      have d2 := box_cell hbox5 2
      have d3 := box_cell hbox5 3
      have d4 := box_cell hbox5 4
      have fb := frozen9 hbox5
      have hlr := box_lt hbox5
      dsimp only [SnapV.arr, noSV, noFV, nilS10] at d0 d1 d2 d3 d4
      go_wp2
      have hF := fillS (b := w.heap.size) (x0 := noSV) hbox5 0 0 none 0 0 none 0 0 none 0 0 noF10 []
      have hB9 : Below w.heap.size w _ := (((((hR5.bel.setCell (p := ⟨w.heap.size, 0, none⟩) (Nat.le_refl _) (.int .i64 0)).setCell (p := ⟨w.heap.size, 1, none⟩) (Nat.le_refl _) (.int .i64 0)).setCell (p := ⟨w.heap.size, 2, none⟩) (Nat.le_refl _) (.slice none 0 0)).setCell (p := ⟨w.heap.size, 3, none⟩) (Nat.le_refl _) (.slice none 0 0)).setCell (p := ⟨w.heap.size, 4, none⟩) (Nat.le_refl _) (.slice none 0 0))
      refine bodyPost_ret (ret_cell9 rfl _ _ w.heap.size _ _ _ _ rfl hF Tryz.underlying27 rfl (by kernel_rfl)) rfl ⟨noSV, ?_, ?_, LiesS.nil _ w.heap.size, hB9⟩
      · rw [HW.out]; rfl
      · rw [HW.out]; rfl
    | true =>
      have HW : Hid (R = (x0, 0)) := by rw [Hid, HW0.out]; rfl
      clear HW0
      have c0 := box_cell hbn5 0
      have d0 := box_cell hbox5 0
      have c1 := box_cell hbn5 1
      have d1 := box_cell hbox5 1
      have c2 := box_cell hbn5 2
      have d2 := box_cell hbox5 2
      have c3 := box_cell hbn5 3
      have d3 := box_cell hbox5 3
      have c4 := box_cell hbn5 4
      have d4 := box_cell hbox5 4
      dsimp only [SnapV.arr, noSV, noFV, nilS10] at c0 d0 c1 d1 c2 d2 c3 d3 c4 d4
      have hlx := box_lt hbn5
      have hlr := box_lt hbox5
      have fb := frozen9 hbox5
      go_wp2
      have hF := fillS (b := w.heap.size) (x0 := noSV) hbox5 si st p n c q m d a b0 e0 f dd
      have hO9 := ((((((((((hM5).cell (b := w.heap.size) (by omega) 0 (.int .i64 si))).cell (b := w.heap.size) (by omega) 1 (.int .i64 st))).cell (b := w.heap.size) (by omega) 2 (.slice p n c))).cell (b := w.heap.size) (by omega) 3 (.slice q m d))).cell (b := w.heap.size) (by omega) 4 (.slice a b0 e0))
      have hB9 : Below w.heap.size w _ := (((((hR5.bel.setCell (p := ⟨w.heap.size, 0, none⟩) (Nat.le_refl _) (.int .i64 si)).setCell (p := ⟨w.heap.size, 1, none⟩) (Nat.le_refl _) (.int .i64 st)).setCell (p := ⟨w.heap.size, 2, none⟩) (Nat.le_refl _) (.slice p n c)).setCell (p := ⟨w.heap.size, 3, none⟩) (Nat.le_refl _) (.slice q m d)).setCell (p := ⟨w.heap.size, 4, none⟩) (Nat.le_refl _) (.slice a b0 e0))
      refine bodyPost_ret (ret_cell9 rfl _ _ w.heap.size _ _ _ _ rfl hF Tryz.underlying27 rfl (by kernel_rfl)) rfl ⟨⟨si, st, ⟨⟨p, n, c⟩, ⟨q, m, d⟩, f⟩, ⟨a, b0, e0⟩, dd⟩, ?_, ?_, hO9.mono (by omega), hB9⟩
      · rw [HW.out]; rfl
      · rw [HW.out]; exact HX.out

end Go.Proofs.YthlelcmifolnfaaGreatDoor
