import Derived.Test.YtkbbhllchombdaaGreatDoorWaV
import Derived.Test.YtkbbhllchombdaaGreatDoorWaQTo
import Derived.Test.YtkbbhllchombdaaGreatDoorEo2
import Derived.Test.YtkbbhllchombdaaGreatDoorLxTo
import Derived.Test.YtkbbhllchombdaaGreatDoorLd
import Derived.Test.YtkbbhllchombdaaGreatDoorCmRTo
import Derived.Test.YtkbbhllchombdaaGreatDoorEp6To
import Derived.Test.YtkbbhllchombdaaGreatDoorRef5To
import Derived.Deep.DeepCutAuto
import Derived.Deep.RegionHeld3
import Derived.Test.YtkbbhllchombdaaGreatDoorWaXTo
import Derived.Test.YtkbbhllchombdaaGreatDoorDkM
import Derived.Test.YtkbbhllchombdaaGreatDoorRef7To
import Derived.Test.YtkbbhllchombdaaGreatDoorOnceTo
import Derived.Test.YtkbbhllchombdaaGreatDoorRnyTo
namespace Go.Proofs.YtkbbhllchombdaaGreatDoor
open Go.RowKit Go.Shelf
attribute [local go_sem ↓] ldE_exec ldE_run stE_exec ldC_exec ldC_run stC_exec ldW_exec stW_exec ldR_exec stR_exec ldT_exec stT_exec ldU_exec stU_exec oc_int oc_bool oc_string oc_slice oc_pointer
theorem recB_frame (r : Rec11) : recB11 r = if goodR11 r = true then frameF (bodyR11 r) else [] := by
  unfold recB11 frameF
  by_cases hg : goodR11 r = true
  · rw [hg, if_pos rfl, Bool.true_and]
    by_cases hl : (bodyR11 r).length ≤ 1048576
    · rw [decide_eq_true hl, if_pos rfl, if_neg (by omega)]
    · rw [decide_eq_false hl, if_neg (by decide), if_pos (by omega)]
  · rw [if_neg hg, if_neg]
    simp [hg]
theorem partR_isB (r : Rec11) : IsB (partR11 r) := by
  unfold partR11
  split
  · exact entB_isB _
  · split
    · exact IsB.append (IsB.append (zigB_isB _) (zigB_isB _)) (zigB_isB _)
    · exact IsB.append (zigB_isB _) (zigB_isB _)

end Go.Proofs.YtkbbhllchombdaaGreatDoor

namespace Go.Proofs.YtkbbhllchombdaaGreatDoor
open Go.RowKit Go.Shelf
attribute [local go_sem ↓] ldE_exec stE_exec ldE_execI stE_execI ldE_run ldE_box ldC_exec stC_exec ldC_execI stC_execI ldC_run ldW_exec stW_exec ldW_execI stW_execI ldW_box ldR_exec stR_exec ldR_execI stR_execI ldT_exec stT_exec ldT_execI stT_execI ldT_box stT_box ldU_exec stU_exec ldU_execI stU_execI ldH_exec stH_exec ldH_execI stH_execI ldH_run ldH_box oc_int oc_bool oc_string oc_slice oc_pointer
attribute [local go_sem ↓] slF_exec slF_execI
structure OwnsR (w : World) (B : Nat) (x : RecV) : Prop where
  k : inI x.k
  e : OwnsE w B x.e
  h : FitsH x.h
  i : inI x.i
  t : inI x.t
theorem OwnsR.fits {w : World} {B : Nat} {x : RecV} (h : OwnsR w B x) : FitsR w x := ⟨h.k, h.e.fits, h.h, h.i, h.t⟩
theorem OwnsR.below {w w' : World} {B : Nat} {x : RecV} (h : OwnsR w B x) (hb : Below w.heap.size w w') : OwnsR w' B x := ⟨h.k, h.e.below hb, h.h, h.i, h.t⟩
theorem OwnsR.mono {w : World} {B B' : Nat} {x : RecV} (h : OwnsR w B x) (hB : B' ≤ B) : OwnsR w B' x := ⟨h.k, h.e.mono hB, h.h, h.i, h.t⟩
theorem on_drew {B : Nat} {w W : World} (h : Below B w W) : Below B w W.drew := ⟨h.os, h.tape, h.output, h.size, h.block⟩
theorem in0 : inI 0 := ⟨by decide, by decide⟩
theorem in1 : inI 1 := ⟨by decide, by decide⟩
theorem in2 : inI 2 := ⟨by decide, by decide⟩
theorem in3 : inI 3 := ⟨by decide, by decide⟩
def recsV (l : List RecV) : List Value := (l.map fun x => x.arr.toList).flatten
theorem recsV_app (l m : List RecV) : recsV (l ++ m) = recsV l ++ recsV m := by simp [recsV]
theorem recsV_one (x : RecV) : recsV [x] = x.arr.toList := by simp [recsV]
theorem rarr_len (x : RecV) : x.arr.toList.length = 19 := rfl
theorem recsV_at : ∀ {l : List RecV} {i k : Nat}, i < l.length → k < 19 → (recsV l)[i * 19 + k]? = (l.getD i noRV).arr[k]?
  | [], _, _, h, _ => by cases h
  | x :: l, 0, k, _, hk => by
    have : recsV (x :: l) = x.arr.toList ++ recsV l := by simp [recsV]
    rw [this, List.getElem?_append_left (by rw [rarr_len]; omega), List.getD_cons_zero, Nat.zero_mul, Nat.zero_add, Array.getElem?_toList]
  | x :: l, i + 1, k, h, hk => by
    have : recsV (x :: l) = x.arr.toList ++ recsV l := by simp [recsV]
    rw [this, List.getElem?_append_right (by rw [rarr_len]; omega), List.getD_cons_succ, rarr_len, show (i + 1) * 19 + k - 19 = i * 19 + k by omega]
    exact recsV_at (by simpa using h) hk
theorem rarr_cell (x : RecV) : ∀ u ∈ x.arr.toList, u.oneCell' = true := by
  intro u hu
  simp only [RecV.arr, List.mem_cons, List.not_mem_nil, or_false] at hu
  rcases hu with rfl | rfl | rfl | rfl | rfl | rfl | rfl | rfl | rfl | rfl | rfl | rfl | rfl | rfl | rfl | rfl | rfl | rfl | rfl <;> rfl
theorem row_shape11 {w : World} {B : Nat} {e : TypeId} {s n : Nat} {v : Value} {xs : List Value} (h : w.ownsRow B e s v n xs) : ∃ p n c, v = .slice p n c := by
  rcases h.2 with ⟨rfl, _⟩ | ⟨g, cap, cur, rfl, _⟩
  · exact ⟨_, _, _, rfl⟩
  · exact ⟨_, _, _, rfl⟩
structure RowR (T : TypeId) (w : World) (B : Nat) (u : Value) (l : List RecV) : Prop where
  row : w.ownsRow B T 19 u l.length (recsV l)
  all : ∀ x ∈ l, OwnsR w B x
theorem RowR.nil (T : TypeId) (w : World) (B : Nat) : RowR T w B (.slice none 0 0) [] := ⟨World.ownsRow_nil w B _ 19, fun _ h => by cases h⟩
theorem RowR.below {T : TypeId} {w w' : World} {B : Nat} {u : Value} {l : List RecV} (h : RowR T w B u l) (hb : Below w.heap.size w w') : RowR T w' B u l := ⟨row_below h.row hb (Nat.le_refl _), fun x hx => (h.all x hx).below hb⟩
theorem OwnsE.appT {w w' : World} {B B' T : Nat} {x : EntV} {u : Value} {s n : Nat} {xs : List Value} (h : OwnsE w B x) (hu : w.ownsRow B' T s u n xs) (hne : 3 ≠ T) (hg : w.grownBy w' u.ownBlock) : OwnsE w' B x :=
  ⟨h.i, h.t, h.k, h.c, ⟨World.ownsRow.kept h.f.u hg (rows_apart h.f.u hu hne), World.ownsRow.kept h.f.v hg (rows_apart h.f.v hu hne), h.f.iu, h.f.iv, h.f.lu, h.f.lv⟩⟩
theorem OwnsR.appT {w w' : World} {B B' T : Nat} {x : RecV} {u : Value} {s n : Nat} {xs : List Value} (h : OwnsR w B x) (hu : w.ownsRow B' T s u n xs) (hne : 3 ≠ T) (hg : w.grownBy w' u.ownBlock) : OwnsR w' B x := ⟨h.k, h.e.appT hu hne hg, h.h, h.i, h.t⟩
end Go.Proofs.YtkbbhllchombdaaGreatDoor

namespace Go.Proofs.YtkbbhllchombdaaGreatDoor
open Go.RowKit Go.Shelf
attribute [local go_sem ↓] ldE_exec stE_exec ldE_execI stE_execI ldE_run ldE_box ldC_exec stC_exec ldC_execI stC_execI ldC_run ldW_exec stW_exec ldW_execI stW_execI ldW_box ldR_exec stR_exec ldR_execI stR_execI ldT_exec stT_exec ldT_execI stT_execI ldT_box stT_box ldU_exec stU_exec ldU_execI stU_execI ldH_exec stH_exec ldH_execI stH_execI ldH_run ldH_box oc_int oc_bool oc_string oc_slice oc_pointer
theorem min2_run (ts : Array TypeId) (t : TypeId) (x y : Int) (W : World) : (Builtin.min_ ts t #[.int .i64 x, .int .i64 y]).run Tryz.prog W = .ok (.int .i64 (min x y)) W := by
  simp [Builtin.min_, Builtin.min2, min_of]

set_option maxRecDepth 100000 in
set_option maxHeartbeats 2000000 in
theorem goodR_any (w : World) (x : RecV) (hF : FitsR w x) : Calls Tryz.prog 43 #[.agg x.arr] w fun e w' => e = .returned (.bool (goodR11 x.r)) ∧ Below w.heap.size w w' := by
  have hb1 : Below w.heap.size w (w.alloc (.cells x.arr 32)) := (Below.refl _ _).alloc (Nat.le_refl _) _
  have hbox := heap_alloc_new w (.cells x.arr 32)
  have hlt : w.heap.size < (w.alloc (.cells x.arr 32)).heap.size := by simp
  have k1 := goodE_any x.e _ (hF.e.below hb1)
  have P1 : Hid (x.k = 1 → goodR11 x.r = goodE10 x.e.e) := fun h => if_pos h
  have P2 : Hid (x.k = 2 → goodR11 x.r = (decide (0 ≤ x.h.t) && decide (0 ≤ x.h.v) && decide (0 ≤ x.h.c))) := fun h => (if_neg (show ¬ x.k = 1 by omega)).trans (if_pos h)
  have P3 : Hid (x.k = 3 → goodR11 x.r = (decide (0 ≤ x.i) && decide (0 ≤ x.t))) := fun h => (if_neg (show ¬ x.k = 1 by omega)).trans ((if_neg (show ¬ x.k = 2 by omega)).trans (if_pos h))
  have P4 : Hid (x.k ≠ 1 → x.k ≠ 2 → x.k ≠ 3 → goodR11 x.r = false) := fun h1 h2 h3 => (if_neg h1).trans ((if_neg h2).trans (if_neg h3))
  generalize goodR11 x.r = g at *
  generalize goodE10 x.e.e = ge at *
  clear hF
  obtain ⟨k, ⟨xi, xt, xk, ⟨ck, cs, cq, ckey, cold, cval, cunt, clim⟩, ⟨⟨p1, n1, c1⟩, ⟨q1, m1, d1⟩, f1⟩⟩, ⟨ht, hv, hc⟩, ri, rt⟩ := x
  unfold RecV.arr at *
  unfold EntV.arr at *
  dsimp only at *
  have y0 : (w.alloc (.cells #[.int .i64 k, .int .i64 xi, .int .i64 xt, .int .i64 xk, .int .i64 ck, .int .i64 cs, .int .i64 cq, .string ckey, .string cold, .string cval, .string cunt, .int .i64 clim, .slice p1 n1 c1, .slice q1 m1 d1, .int .i64 ht, .int .i64 hv, .int .i64 hc, .int .i64 ri, .int .i64 rt] 32)).cell? ⟨w.heap.size, 0, none⟩ = some (.int .i64 k) := box_cell hbox 0
  have y1 : (w.alloc (.cells #[.int .i64 k, .int .i64 xi, .int .i64 xt, .int .i64 xk, .int .i64 ck, .int .i64 cs, .int .i64 cq, .string ckey, .string cold, .string cval, .string cunt, .int .i64 clim, .slice p1 n1 c1, .slice q1 m1 d1, .int .i64 ht, .int .i64 hv, .int .i64 hc, .int .i64 ri, .int .i64 rt] 32)).cell? ⟨w.heap.size, 1, none⟩ = some (.int .i64 xi) := box_cell hbox 1
  have y2 : (w.alloc (.cells #[.int .i64 k, .int .i64 xi, .int .i64 xt, .int .i64 xk, .int .i64 ck, .int .i64 cs, .int .i64 cq, .string ckey, .string cold, .string cval, .string cunt, .int .i64 clim, .slice p1 n1 c1, .slice q1 m1 d1, .int .i64 ht, .int .i64 hv, .int .i64 hc, .int .i64 ri, .int .i64 rt] 32)).cell? ⟨w.heap.size, 2, none⟩ = some (.int .i64 xt) := box_cell hbox 2
  have y3 : (w.alloc (.cells #[.int .i64 k, .int .i64 xi, .int .i64 xt, .int .i64 xk, .int .i64 ck, .int .i64 cs, .int .i64 cq, .string ckey, .string cold, .string cval, .string cunt, .int .i64 clim, .slice p1 n1 c1, .slice q1 m1 d1, .int .i64 ht, .int .i64 hv, .int .i64 hc, .int .i64 ri, .int .i64 rt] 32)).cell? ⟨w.heap.size, 3, none⟩ = some (.int .i64 xk) := box_cell hbox 3
  have y4 : (w.alloc (.cells #[.int .i64 k, .int .i64 xi, .int .i64 xt, .int .i64 xk, .int .i64 ck, .int .i64 cs, .int .i64 cq, .string ckey, .string cold, .string cval, .string cunt, .int .i64 clim, .slice p1 n1 c1, .slice q1 m1 d1, .int .i64 ht, .int .i64 hv, .int .i64 hc, .int .i64 ri, .int .i64 rt] 32)).cell? ⟨w.heap.size, 4, none⟩ = some (.int .i64 ck) := box_cell hbox 4
  have y5 : (w.alloc (.cells #[.int .i64 k, .int .i64 xi, .int .i64 xt, .int .i64 xk, .int .i64 ck, .int .i64 cs, .int .i64 cq, .string ckey, .string cold, .string cval, .string cunt, .int .i64 clim, .slice p1 n1 c1, .slice q1 m1 d1, .int .i64 ht, .int .i64 hv, .int .i64 hc, .int .i64 ri, .int .i64 rt] 32)).cell? ⟨w.heap.size, 5, none⟩ = some (.int .i64 cs) := box_cell hbox 5
  have y6 : (w.alloc (.cells #[.int .i64 k, .int .i64 xi, .int .i64 xt, .int .i64 xk, .int .i64 ck, .int .i64 cs, .int .i64 cq, .string ckey, .string cold, .string cval, .string cunt, .int .i64 clim, .slice p1 n1 c1, .slice q1 m1 d1, .int .i64 ht, .int .i64 hv, .int .i64 hc, .int .i64 ri, .int .i64 rt] 32)).cell? ⟨w.heap.size, 6, none⟩ = some (.int .i64 cq) := box_cell hbox 6
  have y7 : (w.alloc (.cells #[.int .i64 k, .int .i64 xi, .int .i64 xt, .int .i64 xk, .int .i64 ck, .int .i64 cs, .int .i64 cq, .string ckey, .string cold, .string cval, .string cunt, .int .i64 clim, .slice p1 n1 c1, .slice q1 m1 d1, .int .i64 ht, .int .i64 hv, .int .i64 hc, .int .i64 ri, .int .i64 rt] 32)).cell? ⟨w.heap.size, 7, none⟩ = some (.string ckey) := box_cell hbox 7
  have y8 : (w.alloc (.cells #[.int .i64 k, .int .i64 xi, .int .i64 xt, .int .i64 xk, .int .i64 ck, .int .i64 cs, .int .i64 cq, .string ckey, .string cold, .string cval, .string cunt, .int .i64 clim, .slice p1 n1 c1, .slice q1 m1 d1, .int .i64 ht, .int .i64 hv, .int .i64 hc, .int .i64 ri, .int .i64 rt] 32)).cell? ⟨w.heap.size, 8, none⟩ = some (.string cold) := box_cell hbox 8
  have y9 : (w.alloc (.cells #[.int .i64 k, .int .i64 xi, .int .i64 xt, .int .i64 xk, .int .i64 ck, .int .i64 cs, .int .i64 cq, .string ckey, .string cold, .string cval, .string cunt, .int .i64 clim, .slice p1 n1 c1, .slice q1 m1 d1, .int .i64 ht, .int .i64 hv, .int .i64 hc, .int .i64 ri, .int .i64 rt] 32)).cell? ⟨w.heap.size, 9, none⟩ = some (.string cval) := box_cell hbox 9
  have y10 : (w.alloc (.cells #[.int .i64 k, .int .i64 xi, .int .i64 xt, .int .i64 xk, .int .i64 ck, .int .i64 cs, .int .i64 cq, .string ckey, .string cold, .string cval, .string cunt, .int .i64 clim, .slice p1 n1 c1, .slice q1 m1 d1, .int .i64 ht, .int .i64 hv, .int .i64 hc, .int .i64 ri, .int .i64 rt] 32)).cell? ⟨w.heap.size, 10, none⟩ = some (.string cunt) := box_cell hbox 10
  have y11 : (w.alloc (.cells #[.int .i64 k, .int .i64 xi, .int .i64 xt, .int .i64 xk, .int .i64 ck, .int .i64 cs, .int .i64 cq, .string ckey, .string cold, .string cval, .string cunt, .int .i64 clim, .slice p1 n1 c1, .slice q1 m1 d1, .int .i64 ht, .int .i64 hv, .int .i64 hc, .int .i64 ri, .int .i64 rt] 32)).cell? ⟨w.heap.size, 11, none⟩ = some (.int .i64 clim) := box_cell hbox 11
  have y12 : (w.alloc (.cells #[.int .i64 k, .int .i64 xi, .int .i64 xt, .int .i64 xk, .int .i64 ck, .int .i64 cs, .int .i64 cq, .string ckey, .string cold, .string cval, .string cunt, .int .i64 clim, .slice p1 n1 c1, .slice q1 m1 d1, .int .i64 ht, .int .i64 hv, .int .i64 hc, .int .i64 ri, .int .i64 rt] 32)).cell? ⟨w.heap.size, 12, none⟩ = some (.slice p1 n1 c1) := box_cell hbox 12
  have y13 : (w.alloc (.cells #[.int .i64 k, .int .i64 xi, .int .i64 xt, .int .i64 xk, .int .i64 ck, .int .i64 cs, .int .i64 cq, .string ckey, .string cold, .string cval, .string cunt, .int .i64 clim, .slice p1 n1 c1, .slice q1 m1 d1, .int .i64 ht, .int .i64 hv, .int .i64 hc, .int .i64 ri, .int .i64 rt] 32)).cell? ⟨w.heap.size, 13, none⟩ = some (.slice q1 m1 d1) := box_cell hbox 13
  have y14 : (w.alloc (.cells #[.int .i64 k, .int .i64 xi, .int .i64 xt, .int .i64 xk, .int .i64 ck, .int .i64 cs, .int .i64 cq, .string ckey, .string cold, .string cval, .string cunt, .int .i64 clim, .slice p1 n1 c1, .slice q1 m1 d1, .int .i64 ht, .int .i64 hv, .int .i64 hc, .int .i64 ri, .int .i64 rt] 32)).cell? ⟨w.heap.size, 14, none⟩ = some (.int .i64 ht) := box_cell hbox 14
  have y15 : (w.alloc (.cells #[.int .i64 k, .int .i64 xi, .int .i64 xt, .int .i64 xk, .int .i64 ck, .int .i64 cs, .int .i64 cq, .string ckey, .string cold, .string cval, .string cunt, .int .i64 clim, .slice p1 n1 c1, .slice q1 m1 d1, .int .i64 ht, .int .i64 hv, .int .i64 hc, .int .i64 ri, .int .i64 rt] 32)).cell? ⟨w.heap.size, 15, none⟩ = some (.int .i64 hv) := box_cell hbox 15
  have y16 : (w.alloc (.cells #[.int .i64 k, .int .i64 xi, .int .i64 xt, .int .i64 xk, .int .i64 ck, .int .i64 cs, .int .i64 cq, .string ckey, .string cold, .string cval, .string cunt, .int .i64 clim, .slice p1 n1 c1, .slice q1 m1 d1, .int .i64 ht, .int .i64 hv, .int .i64 hc, .int .i64 ri, .int .i64 rt] 32)).cell? ⟨w.heap.size, 16, none⟩ = some (.int .i64 hc) := box_cell hbox 16
  have y17 : (w.alloc (.cells #[.int .i64 k, .int .i64 xi, .int .i64 xt, .int .i64 xk, .int .i64 ck, .int .i64 cs, .int .i64 cq, .string ckey, .string cold, .string cval, .string cunt, .int .i64 clim, .slice p1 n1 c1, .slice q1 m1 d1, .int .i64 ht, .int .i64 hv, .int .i64 hc, .int .i64 ri, .int .i64 rt] 32)).cell? ⟨w.heap.size, 17, none⟩ = some (.int .i64 ri) := box_cell hbox 17
  have y18 : (w.alloc (.cells #[.int .i64 k, .int .i64 xi, .int .i64 xt, .int .i64 xk, .int .i64 ck, .int .i64 cs, .int .i64 cq, .string ckey, .string cold, .string cval, .string cunt, .int .i64 clim, .slice p1 n1 c1, .slice q1 m1 d1, .int .i64 ht, .int .i64 hv, .int .i64 hc, .int .i64 ri, .int .i64 rt] 32)).cell? ⟨w.heap.size, 18, none⟩ = some (.int .i64 rt) := box_cell hbox 18
  have hm3 := fun ts t W => min3_run ts t ht hv hc W
  have hm2 := fun ts t W => min2_run ts t ri rt W
  by_cases e1 : k = 1
  · have HF : Hid (g = ge) := P1.out e1
    subst e1
    go_enter Tryz.func43, Tryz.ntmps43
    go_wp2_with fail
    refine k1.mono ?_
    rintro _ w2 ⟨rfl, hb2⟩
    go_wp2
    go_ret
    exact ⟨by rw [HF.out]; rfl, hb1.trans (hb2.mono hb1.size)⟩
  have e1' : (k == 1) = false := by simpa using e1
  by_cases e2 : k = 2
  · have HF : Hid (g = decide (0 ≤ min ht (min hv hc))) := by
      rw [Hid, P2.out e2, Bool.eq_iff_iff]
      simp only [Bool.and_eq_true, decide_eq_true_eq]
      omega
    subst e2
    go_enter Tryz.func43, Tryz.ntmps43
    go_wp2
    go_ret
    exact ⟨by rw [HF.out]; rfl, hb1⟩
  have e2' : (k == 2) = false := by simpa using e2
  by_cases e3 : k = 3
  · have HF : Hid (g = decide (0 ≤ min ri rt)) := by
      rw [Hid, P3.out e3, Bool.eq_iff_iff]
      simp only [Bool.and_eq_true, decide_eq_true_eq]
      omega
    subst e3
    go_enter Tryz.func43, Tryz.ntmps43
    go_wp2
    go_ret
    exact ⟨by rw [HF.out]; rfl, hb1⟩
  have e3' : (k == 3) = false := by simpa using e3
  have HF : Hid (g = false) := P4.out e1 e2 e3
  go_enter Tryz.func43, Tryz.ntmps43
  go_wp2
  go_ret
  exact ⟨by rw [HF.out]; rfl, hb1⟩

set_option maxRecDepth 100000 in
set_option maxHeartbeats 2000000 in
theorem contentR_any (w : World) (x : RecV) (hF : FitsR w x) (hf : FewF x.e.f.f) (hc0 : FewC x.e.c) : Calls Tryz.prog 45 #[.agg x.arr] w fun e w' => ∃ v, e = .returned v ∧ Owns w' w.heap.size 5 v (bodyR11 x.r) ∧ Below w.heap.size w w' := by
  obtain ⟨i0, hi, hz0, hz1, hz2⟩ := info_parts info8c
  have hb1 : Below w.heap.size w (w.alloc (.cells x.arr 32)) := (Below.refl _ _).alloc (Nat.le_refl _) _
  have hbox := heap_alloc_new w (.cells x.arr 32)
  have hlt : w.heap.size < (w.alloc (.cells x.arr 32)).heap.size := by simp
  have HB : Hid (bodyR11 x.r = zigB x.k ++ partR11 x.r) := rfl
  have P1 : Hid (x.k = 1 → partR11 x.r = entB x.e.e) := fun h => if_pos h
  have P2 : Hid (x.k = 2 → partR11 x.r = hardB x.h) := fun h => (if_neg (show ¬ x.k = 1 by omega)).trans (if_pos h)
  have P3 : Hid (x.k ≠ 1 → x.k ≠ 2 → partR11 x.r = zigB x.i ++ zigB x.t) := fun h1 h2 => (if_neg h1).trans (if_neg h2)
  have K2 : Hid (∀ W, Below w.heap.size w W → Calls Tryz.prog 111 #[.agg x.e.arr] W fun e w' => ∃ v, e = .returned v ∧ Owns w' W.heap.size 5 v (entB x.e.e) ∧ Below W.heap.size W w') := fun W h => bytesE_any W x.e (hF.e.f.below h) hf hc0
  have K4 : Hid (∀ W, Calls Tryz.prog 112 #[.agg x.h.arr] W fun e w' => ∃ v, e = .returned v ∧ Owns w' W.heap.size 5 v (hardB x.h) ∧ Below W.heap.size W w') := fun W => bytesH_any W x.h
  have KZ : Hid (∀ n W, Calls Tryz.prog 110 #[.int .i64 n] W fun e w' => e = .returned (.int .u64 (zigS n)) ∧ w' = W) := fun n W => zig_any n W
  have KP : Hid (∀ n W v ys, Has W v ys → ys.length ≤ 1000 → Calls Tryz.prog 109 #[v, .int .u64 (zigS n)] W fun e w' => ∃ v', e = .returned v' ∧ Owns w' W.heap.size 5 v' (ys ++ zigB n) ∧ Below W.heap.size W w') := fun n W v ys h hl => put_any v ys (zigS n) W h (by omega) (zig_bd n).1 (zig_bd n).2
  have hle : (entB x.e.e).length ≤ 100000 := entB_len hc0 hf
  have hlh : (hardB x.h).length ≤ 27 := by
    unfold hardB
    have := zigB_le x.h.t
    have := zigB_le x.h.v
    have := zigB_le x.h.c
    simp only [List.length_append]
    omega
  have hlk := zigB_le x.k
  have hli := zigB_le x.i
  have hlt' := zigB_le x.t
  generalize bodyR11 x.r = bs at *
  generalize partR11 x.r = pr at *
  generalize entB x.e.e = eb at *
  generalize hardB x.h = hb at *
  clear hF hf hc0
  obtain ⟨k, ⟨xi, xt, xk, ⟨ck, cs, cq, ckey, cold, cval, cunt, clim⟩, ⟨⟨p1, n1, c1⟩, ⟨q1, m1, d1⟩, f1⟩⟩, ⟨ht, hv, hc⟩, ri, rt⟩ := x
  unfold RecV.arr at *
  unfold EntV.arr Hard10.arr at *
  dsimp only at *
  have y0 : (w.alloc (.cells #[.int .i64 k, .int .i64 xi, .int .i64 xt, .int .i64 xk, .int .i64 ck, .int .i64 cs, .int .i64 cq, .string ckey, .string cold, .string cval, .string cunt, .int .i64 clim, .slice p1 n1 c1, .slice q1 m1 d1, .int .i64 ht, .int .i64 hv, .int .i64 hc, .int .i64 ri, .int .i64 rt] 32)).cell? ⟨w.heap.size, 0, none⟩ = some (.int .i64 k) := box_cell hbox 0
  go_enter Tryz.func45, Tryz.ntmps45
  go_wp2_with fail
  refine same_mono (KZ.out _ _) ?_
  go_wp2_with fail
  refine (KP.out k _ _ [] (Has.nil _) (by simp)).mono ?_
  rintro _ w3 ⟨v3, rfl, ho3, hb3⟩
  rw [List.nil_append] at ho3
  have hbox3 := box_below hbox hb3
  have hB3 := hb1.trans (hb3.mono hb1.size)
  clear y0 hbox
  have hW1 : w.heap.size + 1 ≤ (w.alloc (.cells #[.int .i64 k, .int .i64 xi, .int .i64 xt, .int .i64 xk, .int .i64 ck, .int .i64 cs, .int .i64 cq, .string ckey, .string cold, .string cval, .string cunt, .int .i64 clim, .slice p1 n1 c1, .slice q1 m1 d1, .int .i64 ht, .int .i64 hv, .int .i64 hc, .int .i64 ri, .int .i64 rt] 32)).heap.size := by simp
  generalize (w.alloc (.cells #[.int .i64 k, .int .i64 xi, .int .i64 xt, .int .i64 xk, .int .i64 ck, .int .i64 cs, .int .i64 cq, .string ckey, .string cold, .string cval, .string cunt, .int .i64 clim, .slice p1 n1 c1, .slice q1 m1 d1, .int .i64 ht, .int .i64 hv, .int .i64 hc, .int .i64 ri, .int .i64 rt] 32)) = W1 at *
  have y0 : w3.cell? ⟨w.heap.size, 0, none⟩ = some (.int .i64 k) := box_cell hbox3 0
  have y1 : w3.cell? ⟨w.heap.size, 1, none⟩ = some (.int .i64 xi) := box_cell hbox3 1
  have y2 : w3.cell? ⟨w.heap.size, 2, none⟩ = some (.int .i64 xt) := box_cell hbox3 2
  have y3 : w3.cell? ⟨w.heap.size, 3, none⟩ = some (.int .i64 xk) := box_cell hbox3 3
  have y4 : w3.cell? ⟨w.heap.size, 4, none⟩ = some (.int .i64 ck) := box_cell hbox3 4
  have y5 : w3.cell? ⟨w.heap.size, 5, none⟩ = some (.int .i64 cs) := box_cell hbox3 5
  have y6 : w3.cell? ⟨w.heap.size, 6, none⟩ = some (.int .i64 cq) := box_cell hbox3 6
  have y7 : w3.cell? ⟨w.heap.size, 7, none⟩ = some (.string ckey) := box_cell hbox3 7
  have y8 : w3.cell? ⟨w.heap.size, 8, none⟩ = some (.string cold) := box_cell hbox3 8
  have y9 : w3.cell? ⟨w.heap.size, 9, none⟩ = some (.string cval) := box_cell hbox3 9
  have y10 : w3.cell? ⟨w.heap.size, 10, none⟩ = some (.string cunt) := box_cell hbox3 10
  have y11 : w3.cell? ⟨w.heap.size, 11, none⟩ = some (.int .i64 clim) := box_cell hbox3 11
  have y12 : w3.cell? ⟨w.heap.size, 12, none⟩ = some (.slice p1 n1 c1) := box_cell hbox3 12
  have y13 : w3.cell? ⟨w.heap.size, 13, none⟩ = some (.slice q1 m1 d1) := box_cell hbox3 13
  have y14 : w3.cell? ⟨w.heap.size, 14, none⟩ = some (.int .i64 ht) := box_cell hbox3 14
  have y15 : w3.cell? ⟨w.heap.size, 15, none⟩ = some (.int .i64 hv) := box_cell hbox3 15
  have y16 : w3.cell? ⟨w.heap.size, 16, none⟩ = some (.int .i64 hc) := box_cell hbox3 16
  have y17 : w3.cell? ⟨w.heap.size, 17, none⟩ = some (.int .i64 ri) := box_cell hbox3 17
  have y18 : w3.cell? ⟨w.heap.size, 18, none⟩ = some (.int .i64 rt) := box_cell hbox3 18
  have hl3 := box_lt hbox3
  have hs3 := hb3.size
  by_cases e1 : k = 1
  · have HR : Hid (bs = zigB k ++ eb) := by rw [Hid, HB.out, P1.out e1]
    have k2 := K2.out w3 hB3
    generalize zigB k = zk at *
    subst e1
    go_wp2_with fail
    refine k2.mono ?_
    rintro _ w5 ⟨v5, rfl, ho5, hb5⟩
    have hB5 := hB3.trans (hb5.mono hB3.size)
    have ho3' := ho3.below hb5 (Nat.le_refl _)
    have hs5 := hb5.size
    clear k2 HB P1 P2 P3 K2 K4 KZ KP
    go_wp2_with (at_builtin; refine ap_slice _ rfl (.tmp 12) (.tmp 15) 33 rfl W1.heap.size 5 i0 Tryz.underlying33 hi hz0 hz1 hz2 _ zk eb rfl (by exact ho5.has) (by exact ho3') (by omega) (by omega) (by omega) ?_; intro v6 w6 ho6 hb6)
    go_ret
    exact ⟨_, rfl, by rw [HR.out]; exact ho6.mono (by omega), hB5.trans (hb6.mono (by omega))⟩
  have e1' : (k == 1) = false := by simpa using e1
  by_cases e2 : k = 2
  · have HR : Hid (bs = zigB k ++ hb) := by rw [Hid, HB.out, P2.out e2]
    have k2 := K4.out w3
    generalize zigB k = zk at *
    subst e2
    go_wp2_with fail
    refine k2.mono ?_
    rintro _ w5 ⟨v5, rfl, ho5, hb5⟩
    have hB5 := hB3.trans (hb5.mono hB3.size)
    have ho3' := ho3.below hb5 (Nat.le_refl _)
    have hs5 := hb5.size
    clear k2 HB P1 P2 P3 K2 K4 KZ KP
    go_wp2_with (at_builtin; refine ap_slice _ rfl (.tmp 19) (.tmp 22) 33 rfl W1.heap.size 5 i0 Tryz.underlying33 hi hz0 hz1 hz2 _ zk hb rfl (by exact ho5.has) (by exact ho3') (by omega) (by omega) (by omega) ?_; intro v6 w6 ho6 hb6)
    go_ret
    exact ⟨_, rfl, by rw [HR.out]; exact ho6.mono (by omega), hB5.trans (hb6.mono (by omega))⟩
  have e2' : (k == 2) = false := by simpa using e2
  have HR : Hid (bs = zigB k ++ zigB ri ++ zigB rt) := by rw [Hid, HB.out, P3.out e1 e2, List.append_assoc]
  have kp1 := KP.out ri w3 v3 _ ho3.has (by omega)
  have hl2 : (zigB k ++ zigB ri).length ≤ 1000 := by rw [List.length_append]; omega
  generalize zigB k ++ zigB ri = z2 at *
  clear HB P1 P2 P3 K2 K4
  go_wp2_with fail
  refine same_mono (KZ.out _ _) ?_
  go_wp2_with fail
  refine kp1.mono ?_
  rintro _ w5 ⟨v5, rfl, ho5, hb5⟩
  have hB5 := hB3.trans (hb5.mono hB3.size)
  have hbox5 := box_below hbox3 hb5
  clear kp1 y0 y1 y2 y3 y4 y5 y6 y7 y8 y9 y10 y11 y12 y13 y14 y15 y16 y17 y18 hbox3 hl3
  have y18 : w5.cell? ⟨w.heap.size, 18, none⟩ = some (.int .i64 rt) := box_cell hbox5 18
  have hl5 := box_lt hbox5
  have kp2 := KP.out rt w5 v5 _ ho5.has hl2
  go_wp2_with fail
  refine same_mono (KZ.out _ _) ?_
  go_wp2_with fail
  refine kp2.mono ?_
  rintro _ w7 ⟨v7, rfl, ho7, hb7⟩
  go_wp2
  go_ret
  exact ⟨_, rfl, by rw [HR.out]; exact ho7.mono (by omega), hB5.trans (hb7.mono hB5.size)⟩

theorem body_len {r : Rec11} (hf : FewF r.e.f) (hc : FewC r.e.c) : (bodyR11 r).length ≤ 1000000 := by
  unfold bodyR11 partR11
  have h1 := zigB_le r.k
  have h2 := entB_len hc hf
  have h3 := zigB_le r.i
  have h4 := zigB_le r.t
  have h5 := zigB_le r.h.t
  have h6 := zigB_le r.h.v
  have h7 := zigB_le r.h.c
  rw [List.length_append]
  split
  · omega
  · split
    · unfold hardB
      simp only [List.length_append]
      omega
    · rw [List.length_append]
      omega

set_option maxRecDepth 100000 in
set_option maxHeartbeats 2000000 in
theorem bytesR_any (w : World) (hT : Tab w) (x : RecV) (hF : FitsR w x) (hf : FewF x.e.f.f) (hc0 : FewC x.e.c) : Calls Tryz.prog 17 #[.agg x.arr] w (Outs w (recB11 x.r)) := by
  have hb1 : Below w.heap.size w (w.alloc (.cells x.arr 32)) := (Below.refl _ _).alloc (Nat.le_refl _) _
  have hbox := heap_alloc_new w (.cells x.arr 32)
  have hlt : w.heap.size < (w.alloc (.cells x.arr 32)).heap.size := by simp
  have HB : Hid (recB11 x.r = if goodR11 x.r = true then frameF (bodyR11 x.r) else []) := recB_frame x.r
  have k1 := goodR_any _ x (hF.below hb1)
  have K2 : Hid (∀ W, Below w.heap.size w W → Calls Tryz.prog 45 #[.agg x.arr] W fun e w' => ∃ v, e = .returned v ∧ Owns w' W.heap.size 5 v (bodyR11 x.r) ∧ Below W.heap.size W w') := fun W h => contentR_any W x (hF.below h) hf hc0
  have KF : Hid (∀ W v ys, Below w.heap.size w W → Has W v ys → ys.length ≤ 1000000 → IsB ys → Calls Tryz.prog 44 #[v] W fun e w' => ∃ v', e = .returned v' ∧ Has w' v' (frameF ys) ∧ Below W.heap.size W w') := fun W v ys hW h hl hB => frame_all v ys W (hT.below hW (Nat.le_refl _)) h (by omega) hB
  have hle : (bodyR11 x.r).length ≤ 1000000 := body_len hf hc0
  have HI : Hid (IsB (bodyR11 x.r)) := IsB.append (zigB_isB _) (partR_isB _)
  generalize recB11 x.r = rb at *
  generalize bodyR11 x.r = bs at *
  generalize goodR11 x.r = g at *
  clear hF hf hc0 hT
  have hld := ldW_box _ _ _ _ _ hbox rfl
  cases g with
  | false =>
    have HR : Hid (rb = []) := by rw [Hid, HB.out, if_neg (by decide)]
    clear HB K2 KF
    go_enter Tryz.func17, Tryz.ntmps17
    go_wp2_with fail
    refine k1.mono ?_
    rintro _ w2 ⟨rfl, hb2⟩
    go_wp2
    go_ret
    exact ⟨_, rfl, by rw [HR.out]; exact Has.nil _, hb1.trans (hb2.mono hb1.size)⟩
  | true =>
    have HR : Hid (rb = frameF bs) := by rw [Hid, HB.out, if_pos rfl]
    clear HB
    go_enter Tryz.func17, Tryz.ntmps17
    go_wp2_with fail
    refine k1.mono ?_
    rintro _ w2 ⟨rfl, hb2⟩
    have hB2 := hb1.trans (hb2.mono hb1.size)
    have hbox2 := box_below hbox hb2
    have hld2 := ldW_box _ _ _ _ _ hbox2 rfl
    have hl2 := box_lt hbox2
    have k2 := K2.out w2 hB2
    clear k1 hld hbox hlt
    go_wp2_with fail
    refine k2.mono ?_
    rintro _ w3 ⟨v3, rfl, ho3, hb3⟩
    have hB3 := hB2.trans (hb3.mono hB2.size)
    have kf := KF.out w3 v3 bs hB3 ho3.has hle HI.out
    go_wp2_with fail
    refine kf.mono ?_
    rintro _ w4 ⟨v4, rfl, ho4, hb4⟩
    go_wp2
    go_ret
    exact ⟨_, rfl, by rw [HR.out]; exact ho4, hB3.trans (hb4.mono hB3.size)⟩
theorem elemW11 : Elem8 Tryz.prog 38 32 19 216 := elem8 Tryz.underlying38 (z := .agg noRV.arr) (by kernel_rfl) rfl (by decide)
end Go.Proofs.YtkbbhllchombdaaGreatDoor
