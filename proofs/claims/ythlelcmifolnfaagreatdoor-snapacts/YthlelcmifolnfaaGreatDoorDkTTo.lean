import Derived.Test.YthlelcmifolnfaaGreatDoorDkHTo
import Derived.Deep.RegionWith
namespace Go.Proofs.YthlelcmifolnfaaGreatDoor
open Go.RowKit Go.Maps
theorem sync1_any (j s : Nat) (w : World) : Calls Tryz.prog 128 #[.agg #[.pointer (some ⟨j, 0, none⟩), .int .i64 (s : Nat)]] w fun e w' => e = .returned (.int .i64 (s : Nat)) ∧ Below w.heap.size w w' := by
  go_enter Tryz.func128, Tryz.ntmps128
  go_wp2
  go_ret
  exact ⟨rfl, (Below.refl _ _).alloc (Nat.le_refl _) _⟩
theorem crash1_any (j s n zb : Nat) (w : World) (hz : w.heap[zb]? = some (.cells #[.int .i64 (n : Nat)] 3 (0, 0))) (hn : (n : Int) ≤ 9223372036854775807) (hs : (s : Int) ≤ 9223372036854775807) :
    Calls Tryz.prog 80 #[.agg #[.pointer (some ⟨j, 0, none⟩), .int .i64 (s : Nat)], .pointer (some ⟨zb, 0, none⟩)] w fun e w' => e = .returned (.int .i64 (min s n : Nat)) ∧ w'.heap[zb]? = some (.cells #[.int .i64 (n - s : Nat)] 3 (0, 0)) ∧ Turn (fun k => k = zb) w w' := by
  have hzl : zb < w.heap.size := (Array.getElem?_eq_some_iff.1 hz).1
  have c0 := cell_of hz (i := 0) (v := .int .i64 (n : Nat)) rfl
  have f0 := froz_of hz (i := 0)
  by_cases hle : s ≤ n
  · have e1 : min s n = s := Nat.min_eq_left hle
    have hle' : (s : Int) ≤ n := by omega
    rw [e1]
    go_enter Tryz.func80, Tryz.ntmps80
    go_wp2
    go_ret
    refine ⟨rfl, ?_, ((Turn.refl (fun k => k = zb) w).setCell (p := ⟨zb, 0, none⟩) (.inl rfl) _).alloc _⟩
    refine (Below.heap_alloc _ _ _ (by simp [World.setCell]; exact hzl)).trans ((heap_set_same hz).trans ?_)
    simp
    omega
  · have e1 : min s n = n := Nat.min_eq_right (by omega)
    have hle' : (n : Int) < s := by omega
    rw [e1]
    go_enter Tryz.func80, Tryz.ntmps80
    go_wp2
    go_ret
    refine ⟨rfl, ?_, ((Turn.refl (fun k => k = zb) w).setCell (p := ⟨zb, 0, none⟩) (.inl rfl) _).alloc _⟩
    refine (Below.heap_alloc _ _ _ (by simp [World.setCell]; exact hzl)).trans ((heap_set_same hz).trans ?_)
    simp
    omega

def totW : List (ByteArray × Nat) → Nat
  | [] => 0
  | v :: r => v.2 + totW r
def sureL : Nat → List (ByteArray × Nat) → (ByteArray → Nat) → ByteArray → Nat
  | _, [], su => su
  | n, v :: r, su => sureL (n - v.2) r (upd su v.1 (su v.1 + min v.2 n))
def cuts (R : RD) (l : List (ByteArray × Nat)) : RD := l.foldl (fun R v => R.cut v.1) R
theorem cuts_snoc (R : RD) (l : List (ByteArray × Nat)) (v : ByteArray × Nat) : cuts R (l ++ [v]) = (cuts R l).cut v.1 := by unfold cuts; rw [List.foldl_append]; rfl
theorem cuts_keeps : ∀ (l : List (ByteArray × Nat)) (R : RD), (cuts R l).names = R.names ∧ (cuts R l).su = R.su ∧ (cuts R l).wr = R.wr ∧ (cuts R l).mn = R.mn ∧ (cuts R l).pending = R.pending ∧ (cuts R l).blocks = R.blocks ∧ (cuts R l).on = R.on ∧ (cuts R l).ops = R.ops ∧ (cuts R l).armed = R.armed ∧ (cuts R l).keep = R.keep
  | [], _ => ⟨rfl, rfl, rfl, rfl, rfl, rfl, rfl, rfl, rfl, rfl⟩
  | v :: l, R => cuts_keeps l (R.cut v.1)
theorem cuts_bt : ∀ (l : List (ByteArray × Nat)) (R : RD) (x : ByteArray), (cuts R l).bt x = if x ∈ l.map Prod.fst then (R.bt x).take (R.su x) else R.bt x
  | [], _, _ => by simp [cuts]
  | v :: l, R, x => by
    show (cuts (R.cut v.1) l).bt x = _
    rw [cuts_bt l (R.cut v.1) x]
    show (if x ∈ l.map Prod.fst then (upd R.bt v.1 _ x).take (R.su x) else upd R.bt v.1 _ x) = _
    by_cases hx : x = v.1
    · subst hx
      rw [upd_at, List.take_take, Nat.min_self]
      simp
    · rw [upd_ne hx]
      have : (x ∈ (v :: l).map Prod.fst) ↔ x ∈ l.map Prod.fst := by rw [List.map_cons, List.mem_cons]; exact ⟨fun h => h.resolve_left hx, .inr⟩
      by_cases hm : x ∈ l.map Prod.fst
      · rw [if_pos hm, if_pos (this.2 hm)]
      · rw [if_neg hm, if_neg fun h => hm (this.1 h)]
def sumN (f : ByteArray → Nat) : List ByteArray → Nat
  | [] => 0
  | x :: r => f x + sumN f r
theorem sumN_congr {f g : ByteArray → Nat} : ∀ {l : List ByteArray}, (∀ x ∈ l, f x = g x) → sumN f l = sumN g l
  | [], _ => rfl
  | x :: l, h => by rw [sumN, sumN, h x List.mem_cons_self, sumN_congr fun y hy => h y (List.mem_cons_of_mem _ hy)]
theorem sumN_upd {f : ByteArray → Nat} {x : ByteArray} {k : Nat} : ∀ {l : List ByteArray}, l.Nodup → x ∈ l → sumN (upd f x k) l + f x = sumN f l + k
  | [], _, h => by cases h
  | y :: l, hn, h => by
    obtain ⟨h1, h2⟩ := List.nodup_cons.1 hn
    rw [sumN, sumN]
    by_cases hy : y = x
    · subst hy
      rw [upd_at, sumN_congr (f := upd f y k) (g := f) fun z hz => upd_ne fun e => h1 (e ▸ hz)]
      omega
    · have := sumN_upd (f := f) (x := x) (k := k) h2 ((List.mem_cons.1 h).resolve_left (Ne.symm hy))
      rw [upd_ne hy]
      omega
theorem cut_used (R : RD) (hn : R.names.Nodup) {x : ByteArray} (hx : x ∈ R.names) (hs : R.su x ≤ (R.bt x).length) (hu : R.used = (sumN (fun x => need (R.bt x).length) R.names : Nat)) : (R.cut x).used = (sumN (fun y => need ((R.cut x).bt y).length) R.names : Nat) := by
  have e : ∀ y ∈ R.names, need ((R.cut x).bt y).length = upd (fun y => need (R.bt y).length) x (need (R.su x)) y := by
    intro y _
    show need (upd R.bt x _ y).length = _
    by_cases hy : y = x
    · subst hy
      rw [upd_at, upd_at, List.length_take, Nat.min_eq_left hs]
    · rw [upd_ne hy, upd_ne hy]
  have h1 := sumN_upd (f := fun y => need (R.bt y).length) (k := need (R.su x)) hn hx
  rw [sumN_congr e]
  show R.used - ((need (R.bt x).length : Nat) - (need (R.su x) : Nat) : Int) = _
  rw [hu]
  omega
theorem cuts_used : ∀ (l : List (ByteArray × Nat)) (R : RD), R.names.Nodup → (∀ v ∈ l, v.1 ∈ R.names) → (∀ x ∈ R.names, R.su x ≤ (R.bt x).length) → R.used = (sumN (fun x => need (R.bt x).length) R.names : Nat) →
    (cuts R l).used = (sumN (fun x => need ((cuts R l).bt x).length) R.names : Nat) ∧ ∀ x ∈ R.names, R.su x ≤ ((cuts R l).bt x).length
  | [], _, _, _, hs, hu => ⟨hu, hs⟩
  | v :: l, R, hn, hm, hs, hu => by
    have hv := hm v List.mem_cons_self
    refine cuts_used l (R.cut v.1) hn (fun u hu => hm u (List.mem_cons_of_mem _ hu)) (fun x hx => ?_) (cut_used R hn hv (hs _ hv) hu)
    show R.su x ≤ (upd R.bt v.1 _ x).length
    by_cases hxv : x = v.1
    · subst hxv
      rw [upd_at, List.length_take, Nat.min_eq_left (hs _ hv)]
      exact Nat.le_refl _
    · rw [upd_ne hxv]; exact hs x hx
def RD.settled (R : RD) (n : Nat) : RD := { cuts { R with su := sureL n R.wr R.su } R.wr with wr := [], pending := 0 }
section
variable {w w' : World} {d : Nat} {S : Nat → Prop} {φ : ByteArray → Nat} {σ : ByteArray → Value} {mb : Nat} {vb : Value} {R : RD}
theorem Lies8.write (h : Lies8 w d S φ σ mb vb R) {j : Nat} (hj : j < R.wr.length) : ∃ g cap, vb = .slice (some ⟨g, 0, none⟩) R.wr.length cap ∧ R.wr.length ≤ cap ∧ w.cell? ⟨g, j * 2, none⟩ = some (.pointer (some ⟨φ (R.wr.getD j default).1, 0, none⟩)) ∧ w.cell? ⟨g, j * 2 + 1, none⟩ = some (.int .i64 ((R.wr.getD j default).2 : Nat)) := by
  rcases h.buf.2 with ⟨_, hn⟩ | ⟨g, cap, cur, rfl, hB, hg, hnc, hm, _, _⟩
  · omega
  · have hc := fun i u hi => World.ownsRow.cells h.buf (g := g) rfl i u hi
    have h1 := hc _ _ (writesV_file hj)
    have h2 := hc _ _ (writesV_size hj)
    rw [Addr.add_lit, Nat.zero_add] at h1 h2
    exact ⟨g, cap, rfl, hnc, h1, h2⟩
theorem drop_cons {l : List (ByteArray × Nat)} {j : Nat} (hj : j < l.length) : l.drop j = l.getD j default :: l.drop (j + 1) := by
  rw [List.drop_eq_getElem_cons hj, List.getD_eq_getElem?_getD, List.getElem?_eq_getElem hj]
  rfl
theorem take_snocW {l : List (ByteArray × Nat)} {j : Nat} (hj : j < l.length) : l.take (j + 1) = l.take j ++ [l.getD j default] := by
  rw [List.take_succ_eq_append_getElem hj, List.getD_eq_getElem?_getD, List.getElem?_eq_getElem hj]
  rfl
theorem getD_memW {l : List (ByteArray × Nat)} {j : Nat} (hj : j < l.length) : l.getD j default ∈ l := by
  rw [List.getD_eq_getElem?_getD, List.getElem?_eq_getElem hj]
  exact List.getElem_mem hj

theorem sumN_le {f g : ByteArray → Nat} : ∀ {l : List ByteArray}, (∀ x ∈ l, f x ≤ g x) → sumN f l ≤ sumN g l
  | [], _ => Nat.le_refl _
  | x :: l, h => by
    have h1 := h x List.mem_cons_self
    have h2 := sumN_le (f := f) (g := g) (l := l) fun y hy => h y (List.mem_cons_of_mem _ hy)
    rw [sumN, sumN]
    omega
theorem cuts_len (R : RD) (l : List (ByteArray × Nat)) (x : ByteArray) : ((cuts R l).bt x).length ≤ (R.bt x).length := by
  rw [cuts_bt]
  split
  · rw [List.length_take]; omega
  · exact Nat.le_refl _
theorem cuts_ok {R : RD} (hnd : R.names.Nodup) (hm : ∀ v ∈ R.wr, v.1 ∈ R.names) (hs : ∀ x ∈ R.names, R.su x ≤ (R.bt x).length) (hbt : ∀ x ∈ R.names, (R.bt x).length ≤ 1073741824) (hu : R.used = (sumN (fun x => need (R.bt x).length) R.names : Nat)) (hub : R.used ≤ 16777216) (j : Nat) {x : ByteArray} (hx : x ∈ R.names) :
    x ∈ (cuts R (R.wr.take j)).names ∧ ((cuts R (R.wr.take j)).bt x).length ≤ 1073741824 ∧ (cuts R (R.wr.take j)).su x ≤ ((cuts R (R.wr.take j)).bt x).length ∧ -1099511627776 ≤ (cuts R (R.wr.take j)).used ∧ (cuts R (R.wr.take j)).used ≤ 1099511627776 := by
  obtain ⟨k1, k2, _⟩ := cuts_keeps (R.wr.take j) R
  obtain ⟨u1, u2⟩ := cuts_used (R.wr.take j) R hnd (fun v hv => hm v (List.mem_of_mem_take hv)) hs hu
  have h1 := cuts_len R (R.wr.take j) x
  have h2 := hbt x hx
  have h3 := sumN_le (f := fun x => need ((cuts R (R.wr.take j)).bt x).length) (g := fun x => need (R.bt x).length) (l := R.names) fun y _ => need_mono (cuts_len R _ y)
  refine ⟨by rw [k1]; exact hx, by omega, by rw [k2]; exact u2 x hx, by omega, by omega⟩

set_option maxRecDepth 10000 in
set_option maxHeartbeats 4000000 in
theorem settle_c (h : Lies8 w d S φ σ mb vb R) (hS : ∀ k, w.heap.size ≤ k → S k) (n zb : Nat) (hz : w.heap[zb]? = some (.cells #[.int .i64 (n : Nat)] 3 (0, 0))) (hzS : ¬ S zb) (hn64 : (n : Int) ≤ 9223372036854775807) (hwl : (R.wr.length : Int) ≤ 9223372036854775807)
    (hmax : ∀ x ∈ R.names, R.su x + totW R.wr ≤ 1099511627776) (hnd : R.names.Nodup) (hF : ∀ x ∈ R.names, sureL n R.wr R.su x ≤ (R.bt x).length) (hbt : ∀ x ∈ R.names, (R.bt x).length ≤ 1073741824)
    (hu : R.used = (sumN (fun x => need (R.bt x).length) R.names : Nat)) (hub : R.used ≤ 16777216) :
    Calls Tryz.prog 79 #[.pointer (some ⟨d, 0, none⟩), .func (.func 80) #[] #[.pointer (some ⟨zb, 0, none⟩)]] w fun e w' => (∃ v, e = .returned v) ∧ (∃ σ', Lies8 w' d S φ σ' mb (.slice none 0 0) (R.settled n)) ∧ Turn (fun k => S k ∨ k = zb) w w' := by
  have hzl : zb < w.heap.size := (Array.getElem?_eq_some_iff.1 hz).1
  obtain ⟨-, c1, -⟩ := h.cells
  obtain ⟨pb, cb, rfl⟩ := writes_shape h.buf
  obtain ⟨F, HF⟩ : ∃ F, Hid (sureL n R.wr R.su = F) := ⟨_, rfl⟩
  rw [HF.out] at hF
  obtain ⟨N, HN⟩ : ∃ N, Hid (R.wr.length = N) := ⟨_, rfl⟩
  have hwl' := hwl
  rw [HN.out] at hwl'
  have h0 := h
  rw [HN.out] at h0 c1
  go_enter Tryz.func79, Tryz.ntmps79
  go_wp2
  go_loopw [13] (fun i wr => ∃ (j m : Nat) (su : ByteArray → Nat), j ≤ N ∧ i = .int .i64 (j : Nat) ∧ Lies8 wr d S φ σ mb (.slice pb N cb) { R with su := su } ∧ wr.heap[zb]? = some (.cells #[.int .i64 (m : Nat)] 3 (0, 0)) ∧ (m : Int) ≤ 9223372036854775807 ∧ Hid (sureL m (R.wr.drop j) su = F) ∧ Hid (∀ x ∈ R.names, su x + totW (R.wr.drop j) ≤ 1099511627776) ∧ Turn (fun k => S k ∨ k = zb) w wr) (fun i _ => N - (intOf i).toNat)
  case atStart => exact ⟨0, n, R.su, Nat.zero_le _, rfl, h0, hz, hn64, HF.out, hmax, Turn.refl _ _⟩
  case round =>
    clear h0 h hz c1 hn64
    obtain ⟨j, m, su, hj, rfl, hL, hz, hm64, HS, HB, ht⟩ := hrel
    by_cases hlt : j < N
    · have hjl : j < R.wr.length := by rw [HN.out]; exact hlt
      obtain ⟨g, cap, e, hcap, d1, d2⟩ := hL.write (j := j) hjl
      simp only [Value.slice.injEq] at e
      obtain ⟨rfl, -, rfl⟩ := e
      dsimp only at d1 d2 hcap
      rw [HN.out] at hcap
      have hmem : (R.wr.getD j default).1 ∈ R.names := hL.mem _ (getD_memW hjl)
      have Hd : Hid (R.wr.drop j = R.wr.getD j default :: R.wr.drop (j + 1)) := drop_cons hjl
      obtain ⟨x, Hx⟩ : ∃ x, Hid (R.wr.getD j default = x) := ⟨_, rfl⟩
      rw [Hx.out] at d1 d2 hmem Hd
      obtain ⟨xf, xs⟩ := x
      dsimp only at d1 d2 hmem
      have hb1 := HB.out xf hmem
      rw [Hd.out, totW] at hb1
      dsimp only at hb1
      have hA := heap_alloc_new wr (.cells #[.pointer (some ⟨φ xf, 0, none⟩), .int .i64 (xs : Nat)] 117)
      have hba : Below wr.heap.size wr (wr.alloc (.cells #[.pointer (some ⟨φ xf, 0, none⟩), .int .i64 (xs : Nat)] 117)) := (Below.refl _ _).alloc (Nat.le_refl _) _
      have hza : (wr.alloc (.cells #[.pointer (some ⟨φ xf, 0, none⟩), .int .i64 (xs : Nat)] 117)).heap.size = wr.heap.size + 1 := by simp
      have hz1 := (hba.block zb (Array.getElem?_eq_some_iff.1 hz).1).trans hz
      have hL1 := hL.below hba
      have t1 : Turn (fun k => S k ∨ k = zb) w (wr.alloc (.cells #[.pointer (some ⟨φ xf, 0, none⟩), .int .i64 (xs : Nat)] 117)) := ht.alloc _
      go_wp2_with fail
      generalize wr.alloc (.cells #[.pointer (some ⟨φ xf, 0, none⟩), .int .i64 (xs : Nat)] 117) = wa at *
      have hws := ht.size
      generalize wr.heap.size = ab at *
      obtain ⟨k0, k1, kf⟩ := hL1.fcells hmem
      dsimp only at k1
      have b0 := cell_of hA (i := 0) (v := .pointer (some ⟨φ xf, 0, none⟩)) rfl
      have b1 := cell_of hA (i := 1) (v := .int .i64 (xs : Nat)) rfl
      clear hL ht hz hba d1 d2
      have hfl : φ xf < wa.heap.size := hL1.ltF hmem
      have hfz : φ xf ≠ zb := fun e => hzS (e ▸ hL1.sF xf hmem)
      have habl : ab < wa.heap.size := by omega
      have habz : ab ≠ zb := by omega
      have hFile := hL1.file xf hmem
      have hcr := (crash1_any (φ xf) xs m zb wa.drew hz1 hm64 (by omega)).mono (R' := fun e w2 => e = .returned (.int .i64 (min xs m : Nat)) ∧ w2.heap[zb]? = some (.cells #[.int .i64 (m - xs : Nat)] 3 (0, 0)) ∧ Turn (fun k => k = zb) wa.drew w2 ∧ w2.cell? ⟨φ xf, 1, none⟩ = some (.int .i64 (su xf : Nat)) ∧ w2.cell? ⟨ab, 0, none⟩ = some (.pointer (some ⟨φ xf, 0, none⟩)) ∧ w2.frozen? ⟨φ xf, 1, none⟩ = false)
        fun e w2 ⟨he, hz2, t2⟩ => ⟨he, hz2, t2, (t2.cell (p := ⟨φ xf, 1, none⟩) hfl hfz).trans k1, (t2.cell (p := ⟨ab, 0, none⟩) habl habz).trans b0, froz_of (i := 1) ((t2.block (φ xf) hfl hfz).trans hFile)⟩
      go_region_with (go_at_call 80; refine hcr.mono ?_; rintro e w2 ⟨rfl, hz2, t2, k1', b0', kf'⟩)
      all_goals
        clear hcr
        have hL2 := (hL1.drewN 1).same (w' := w2) fun k hk hk' => t2.block k hk (by rintro rfl; exact hzS hk')
        have hL3 := hL2.setS hmem (su xf + min xs m)
        have hz3 : (w2.setCell ⟨φ xf, 1, none⟩ (.int .i64 (su xf + min xs m : Nat))).heap[zb]? = _ := (heap_set_other (Ne.symm hfz)).trans hz2
        have t3 : Turn (fun k => S k ∨ k = zb) w (w2.setCell ⟨φ xf, 1, none⟩ (.int .i64 (su xf + min xs m : Nat))) := ((t1.drew).wide t2 fun k hk => .inl (.inr hk)).setCell (p := ⟨φ xf, 1, none⟩) (.inl (.inl (hL1.sF xf hmem))) _
        have hmn : min xs m ≤ xs := Nat.min_le_left _ _
        have HS2 : Hid (sureL (m - xs) (R.wr.drop (j + 1)) (upd su xf (su xf + min xs m)) = F) := by
          have := HS.out
          rw [Hd.out, sureL] at this
          exact this
        have HB2 : Hid (∀ x ∈ R.names, upd su xf (su xf + min xs m) x + totW (R.wr.drop (j + 1)) ≤ 1099511627776) := by
          intro x hx
          by_cases hxf : x = xf
          · subst hxf; rw [upd_at]; omega
          · have := HB.out x hx
            rw [Hd.out, totW] at this
            dsimp only at this
            rw [upd_ne hxf]
            omega
        rw [Int.natCast_add] at hL3 hz3 t3
        generalize min xs m = mn at *
        go_wp2
        go_roundw
        case rel => exact ⟨j + 1, m - xs, upd su xf (su xf + mn), by omega, by go_num, hL3, hz3, by omega, HS2, HB2, t3⟩
        case measure => simp only [intOf]; omega
    · have hjn : j = N := by omega
      subst hjn
      have hsF : su = F := by
        have := HS.out
        rw [← HN.out, List.drop_length] at this
        exact this
      subst hsF
      clear HS HB hj hlt hz hm64
      have hok := fun (j : Nat) (x : ByteArray) (hx : x ∈ R.names) => cuts_ok (R := { R with su := su }) hnd hL.mem hF hbt hu hub j hx
      have hmemR := hL.mem
      obtain ⟨-, c1, -⟩ := hL.cells
      obtain ⟨R1, HR1⟩ : ∃ R1 : RD, Hid ({ R with su := su } = R1) := ⟨_, rfl⟩
      have Hw1 : Hid (R1.wr = R.wr ∧ R1.names = R.names) := by rw [← HR1.out]; exact ⟨rfl, rfl⟩
      rw [HR1.out] at hok hL
      go_wp2
      go_loopw [34] (fun i wr2 => ∃ (k : Nat) (σ2 : ByteArray → Value), k ≤ j ∧ i = .int .i64 (k : Nat) ∧ Lies8 wr2 d S φ σ2 mb (.slice pb j cb) (cuts R1 (R1.wr.take k)) ∧ Turn (fun k => S k ∨ k = zb) w wr2) (fun i _ => j - (intOf i).toNat)
      case atStart => exact ⟨0, σ, Nat.zero_le _, rfl, by rw [List.take_zero]; exact hL, ht⟩
      case round =>
        clear hL ht c1
        obtain ⟨k, σ2, hk, rfl, hL, ht⟩ := hrel
        by_cases hlt : k < j
        · have hkeep := cuts_keeps (R1.wr.take k) R1
          have hkl : k < R.wr.length := by rw [HN.out]; exact hlt
          have hwrk : (cuts R1 (R1.wr.take k)).wr = R.wr := hkeep.2.2.1.trans Hw1.out.1
          obtain ⟨g, cap, e, hcap, d1, d2⟩ := hL.write (j := k) (by rw [hwrk]; exact hkl)
          simp only [Value.slice.injEq] at e
          obtain ⟨rfl, -, rfl⟩ := e
          rw [hwrk] at d1 d2 hcap
          rw [HN.out] at hcap
          have hmem : (R.wr.getD k default).1 ∈ R.names := hmemR _ (getD_memW hkl)
          have Ht : Hid (R1.wr.take (k + 1) = R1.wr.take k ++ [R.wr.getD k default]) := by
            show _ = _
            rw [Hw1.out.1]
            exact take_snocW hkl
          obtain ⟨x, Hx⟩ : ∃ x, Hid (R.wr.getD k default = x) := ⟨_, rfl⟩
          rw [Hx.out] at d1 d2 hmem Ht
          obtain ⟨xf, xs⟩ := x
          dsimp only at d1 d2 hmem
          clear hkeep hwrk
          have hokx := hok k xf hmem
          obtain ⟨o1, o2, o3, o4, o5⟩ := hokx
          have HC : Hid (cuts R1 (R1.wr.take (k + 1)) = (cuts R1 (R1.wr.take k)).cut xf) := by
            show _ = _
            rw [Ht.out, cuts_snoc]
          have hba : Below wr.heap.size wr (wr.alloc (.cells #[.pointer (some ⟨φ xf, 0, none⟩), .int .i64 (xs : Nat)] 117)) := (Below.refl _ _).alloc (Nat.le_refl _) _
          have hL1 := hL.below hba
          have t1 : Turn (fun k => S k ∨ k = zb) w (wr.alloc (.cells #[.pointer (some ⟨φ xf, 0, none⟩), .int .i64 (xs : Nat)] 117)) := ht.alloc _
          have hS1 : ∀ i, (wr.alloc (.cells #[.pointer (some ⟨φ xf, 0, none⟩), .int .i64 (xs : Nat)] 117)).heap.size ≤ i → S i := fun i hi => hS i (Nat.le_trans t1.size hi)
          have hcut := cut_any hL1 hS1 o1 o2 o3 ⟨o4, o5⟩
          generalize cuts R1 (R1.wr.take k) = Rk at *
          go_wp2_with fail
          refine hcut.mono ?_
          rintro e w2 ⟨⟨v, rfl⟩, ⟨σ3, hL3⟩, t2⟩
          clear hcut hL hL1 d1 d2
          go_wp2
          go_roundw
          case rel => exact ⟨k + 1, σ3, by omega, by go_num, by rw [HC.out]; exact hL3, t1.wide t2 fun i hi => .inl (.inl hi)⟩
          case measure => simp only [intOf]; omega
        · have hkn : k = j := by omega
          subst hkn
          have hall : R1.wr.take k = R1.wr := by rw [Hw1.out.1, ← HN.out, List.take_length]
          rw [hall] at hL
          obtain ⟨-, c1, c2, -, -, -, -, -, -, cf⟩ := hL.cells
          have h5 := hL.setB (v' := .slice none 0 0) (l := []) ⟨rfl, rfl, rfl, Nat.le_refl _, fun _ _ _ => rfl⟩ (World.ownsRow_nil _ _ _ _) (fun v hv => by cases hv) (.inr fun g hg => by cases hg) (fun i hi => hS i (Nat.le_trans ht.size hi))
          have h6 := h5.setD 2 (.int .i64 0) { cuts R1 R1.wr with wr := [], pending := 0 } rfl rfl rfl rfl rfl rfl
          have t6 := (ht.setCell (p := ⟨d, 1, none⟩) (.inl (.inl hL.sD)) (.slice none 0 0)).setCell (p := ⟨d, 2, none⟩) (.inl (.inl hL.sD)) (.int .i64 0)
          have HE : Hid ({ cuts R1 R1.wr with wr := [], pending := 0 } = R.settled n) := by
            show _ = _
            unfold RD.settled
            rw [HF.out, HR1.out, Hw1.out.1]
          generalize ({ cuts R1 R1.wr with wr := [], pending := 0 } : RD) = R2 at *
          clear h5 hok
          go_wp2
          go_end0
          exact ⟨⟨_, rfl⟩, ⟨σ2, by rw [← HE.out]; exact h6⟩, t6⟩
end
section
variable {w w' : World} {d : Nat} {S : Nat → Prop} {φ : ByteArray → Nat} {σ : ByteArray → Value} {mb : Nat} {vb : Value} {R : RD}
set_option maxRecDepth 10000 in
set_option maxHeartbeats 4000000 in
theorem settle_s (h : Lies8 w d S φ σ mb vb R) (hS : ∀ k, w.heap.size ≤ k → S k) (n : Nat) (hn : totW R.wr ≤ n) (hwl : (R.wr.length : Int) ≤ 9223372036854775807)
    (hmax : ∀ x ∈ R.names, R.su x + totW R.wr ≤ 1099511627776) (hnd : R.names.Nodup) (hF : ∀ x ∈ R.names, sureL n R.wr R.su x ≤ (R.bt x).length) (hbt : ∀ x ∈ R.names, (R.bt x).length ≤ 1073741824)
    (hu : R.used = (sumN (fun x => need (R.bt x).length) R.names : Nat)) (hub : R.used ≤ 16777216) :
    Calls Tryz.prog 79 #[.pointer (some ⟨d, 0, none⟩), .func (.func 128) #[] #[]] w fun e w' => (∃ v, e = .returned v) ∧ (∃ σ', Lies8 w' d S φ σ' mb (.slice none 0 0) (R.settled n)) ∧ Turn S w w' := by
  obtain ⟨-, c1, -⟩ := h.cells
  obtain ⟨pb, cb, rfl⟩ := writes_shape h.buf
  obtain ⟨F, HF⟩ : ∃ F, Hid (sureL n R.wr R.su = F) := ⟨_, rfl⟩
  rw [HF.out] at hF
  obtain ⟨N, HN⟩ : ∃ N, Hid (R.wr.length = N) := ⟨_, rfl⟩
  have hwl' := hwl
  rw [HN.out] at hwl'
  have h0 := h
  rw [HN.out] at h0 c1
  go_enter Tryz.func79, Tryz.ntmps79
  go_wp2
  go_loopw [13] (fun i wr => ∃ (j m : Nat) (su : ByteArray → Nat), j ≤ N ∧ i = .int .i64 (j : Nat) ∧ Lies8 wr d S φ σ mb (.slice pb N cb) { R with su := su } ∧ Hid (totW (R.wr.drop j) ≤ m) ∧ Hid (sureL m (R.wr.drop j) su = F) ∧ Hid (∀ x ∈ R.names, su x + totW (R.wr.drop j) ≤ 1099511627776) ∧ Turn S w wr) (fun i _ => N - (intOf i).toNat)
  case atStart => exact ⟨0, n, R.su, Nat.zero_le _, rfl, h0, hn, HF.out, hmax, Turn.refl _ _⟩
  case round =>
    clear h0 h c1 hn
    obtain ⟨j, m, su, hj, rfl, hL, HM, HS, HB, ht⟩ := hrel
    by_cases hlt : j < N
    · have hjl : j < R.wr.length := by rw [HN.out]; exact hlt
      obtain ⟨g, cap, e, hcap, d1, d2⟩ := hL.write (j := j) hjl
      simp only [Value.slice.injEq] at e
      obtain ⟨rfl, -, rfl⟩ := e
      dsimp only at d1 d2 hcap
      rw [HN.out] at hcap
      have hmem : (R.wr.getD j default).1 ∈ R.names := hL.mem _ (getD_memW hjl)
      have Hd : Hid (R.wr.drop j = R.wr.getD j default :: R.wr.drop (j + 1)) := drop_cons hjl
      obtain ⟨x, Hx⟩ : ∃ x, Hid (R.wr.getD j default = x) := ⟨_, rfl⟩
      rw [Hx.out] at d1 d2 hmem Hd
      obtain ⟨xf, xs⟩ := x
      dsimp only at d1 d2 hmem
      have hb1 := HB.out xf hmem
      rw [Hd.out, totW] at hb1
      dsimp only at hb1
      have hA := heap_alloc_new wr (.cells #[.pointer (some ⟨φ xf, 0, none⟩), .int .i64 (xs : Nat)] 117)
      have hba : Below wr.heap.size wr (wr.alloc (.cells #[.pointer (some ⟨φ xf, 0, none⟩), .int .i64 (xs : Nat)] 117)) := (Below.refl _ _).alloc (Nat.le_refl _) _
      have hza : (wr.alloc (.cells #[.pointer (some ⟨φ xf, 0, none⟩), .int .i64 (xs : Nat)] 117)).heap.size = wr.heap.size + 1 := by simp
      have hxm : xs ≤ m ∧ totW (R.wr.drop (j + 1)) ≤ m - xs := by
        have := HM.out
        rw [Hd.out, totW] at this
        dsimp only at this
        omega
      have hL1 := hL.below hba
      have t1 : Turn S w (wr.alloc (.cells #[.pointer (some ⟨φ xf, 0, none⟩), .int .i64 (xs : Nat)] 117)) := ht.alloc _
      go_wp2_with fail
      generalize wr.alloc (.cells #[.pointer (some ⟨φ xf, 0, none⟩), .int .i64 (xs : Nat)] 117) = wa at *
      have hws := ht.size
      generalize wr.heap.size = ab at *
      obtain ⟨k0, k1, kf⟩ := hL1.fcells hmem
      dsimp only at k1
      have b0 := cell_of hA (i := 0) (v := .pointer (some ⟨φ xf, 0, none⟩)) rfl
      have b1 := cell_of hA (i := 1) (v := .int .i64 (xs : Nat)) rfl
      clear hL ht hba d1 d2
      have hfl : φ xf < wa.heap.size := hL1.ltF hmem
      have habl : ab < wa.heap.size := by omega
      have hFile := hL1.file xf hmem
      have hcr := (sync1_any (φ xf) xs wa.drew).mono (R' := fun e w2 => e = .returned (.int .i64 (xs : Nat)) ∧ Below wa.drew.heap.size wa.drew w2 ∧ w2.cell? ⟨φ xf, 1, none⟩ = some (.int .i64 (su xf : Nat)) ∧ w2.cell? ⟨ab, 0, none⟩ = some (.pointer (some ⟨φ xf, 0, none⟩)) ∧ w2.frozen? ⟨φ xf, 1, none⟩ = false)
        fun e w2 ⟨he, t2⟩ => ⟨he, t2, (t2.cell (p := ⟨φ xf, 1, none⟩) hfl).trans k1, (t2.cell (p := ⟨ab, 0, none⟩) habl).trans b0, froz_of (i := 1) ((t2.block (φ xf) hfl).trans hFile)⟩
      go_region_with (go_at_call 128; refine hcr.mono ?_; rintro e w2 ⟨rfl, t2, k1', b0', kf'⟩)
      all_goals
        clear hcr
        have hL2 := (hL1.drewN 1).same (w' := w2) fun k hk _ => t2.block k hk
        have hL3 := hL2.setS hmem (su xf + xs)
        have t3 : Turn S w (w2.setCell ⟨φ xf, 1, none⟩ (.int .i64 (su xf + xs : Nat))) := ((t1.drew).trans (Turn.of_below t2 (Nat.le_refl _))).setCell (p := ⟨φ xf, 1, none⟩) (.inl (hL1.sF xf hmem)) _
        have HS2 : Hid (sureL (m - xs) (R.wr.drop (j + 1)) (upd su xf (su xf + xs)) = F) := by
          have := HS.out
          rw [Hd.out, sureL] at this
          dsimp only at this
          rw [Nat.min_eq_left hxm.1] at this
          exact this
        have HB2 : Hid (∀ x ∈ R.names, upd su xf (su xf + xs) x + totW (R.wr.drop (j + 1)) ≤ 1099511627776) := by
          intro x hx
          by_cases hxf : x = xf
          · subst hxf; rw [upd_at]; omega
          · have := HB.out x hx
            rw [Hd.out, totW] at this
            dsimp only at this
            rw [upd_ne hxf]
            omega
        rw [Int.natCast_add] at hL3 t3
        go_wp2
        go_roundw
        case rel => exact ⟨j + 1, m - xs, upd su xf (su xf + xs), by omega, by go_num, hL3, hxm.2, HS2, HB2, t3⟩
        case measure => simp only [intOf]; omega
    · have hjn : j = N := by omega
      subst hjn
      have hsF : su = F := by
        have := HS.out
        rw [← HN.out, List.drop_length] at this
        exact this
      subst hsF
      clear HS HB hj hlt HM
      have hok := fun (j : Nat) (x : ByteArray) (hx : x ∈ R.names) => cuts_ok (R := { R with su := su }) hnd hL.mem hF hbt hu hub j hx
      have hmemR := hL.mem
      obtain ⟨-, c1, -⟩ := hL.cells
      obtain ⟨R1, HR1⟩ : ∃ R1 : RD, Hid ({ R with su := su } = R1) := ⟨_, rfl⟩
      have Hw1 : Hid (R1.wr = R.wr ∧ R1.names = R.names) := by rw [← HR1.out]; exact ⟨rfl, rfl⟩
      rw [HR1.out] at hok hL
      go_wp2
      go_loopw [34] (fun i wr2 => ∃ (k : Nat) (σ2 : ByteArray → Value), k ≤ j ∧ i = .int .i64 (k : Nat) ∧ Lies8 wr2 d S φ σ2 mb (.slice pb j cb) (cuts R1 (R1.wr.take k)) ∧ Turn S w wr2) (fun i _ => j - (intOf i).toNat)
      case atStart => exact ⟨0, σ, Nat.zero_le _, rfl, by rw [List.take_zero]; exact hL, ht⟩
      case round =>
        clear hL ht c1
        obtain ⟨k, σ2, hk, rfl, hL, ht⟩ := hrel
        by_cases hlt : k < j
        · have hkeep := cuts_keeps (R1.wr.take k) R1
          have hkl : k < R.wr.length := by rw [HN.out]; exact hlt
          have hwrk : (cuts R1 (R1.wr.take k)).wr = R.wr := hkeep.2.2.1.trans Hw1.out.1
          obtain ⟨g, cap, e, hcap, d1, d2⟩ := hL.write (j := k) (by rw [hwrk]; exact hkl)
          simp only [Value.slice.injEq] at e
          obtain ⟨rfl, -, rfl⟩ := e
          rw [hwrk] at d1 d2 hcap
          rw [HN.out] at hcap
          have hmem : (R.wr.getD k default).1 ∈ R.names := hmemR _ (getD_memW hkl)
          have Ht : Hid (R1.wr.take (k + 1) = R1.wr.take k ++ [R.wr.getD k default]) := by
            show _ = _
            rw [Hw1.out.1]
            exact take_snocW hkl
          obtain ⟨x, Hx⟩ : ∃ x, Hid (R.wr.getD k default = x) := ⟨_, rfl⟩
          rw [Hx.out] at d1 d2 hmem Ht
          obtain ⟨xf, xs⟩ := x
          dsimp only at d1 d2 hmem
          clear hkeep hwrk
          have hokx := hok k xf hmem
          obtain ⟨o1, o2, o3, o4, o5⟩ := hokx
          have HC : Hid (cuts R1 (R1.wr.take (k + 1)) = (cuts R1 (R1.wr.take k)).cut xf) := by
            show _ = _
            rw [Ht.out, cuts_snoc]
          have hba : Below wr.heap.size wr (wr.alloc (.cells #[.pointer (some ⟨φ xf, 0, none⟩), .int .i64 (xs : Nat)] 117)) := (Below.refl _ _).alloc (Nat.le_refl _) _
          have hL1 := hL.below hba
          have t1 : Turn S w (wr.alloc (.cells #[.pointer (some ⟨φ xf, 0, none⟩), .int .i64 (xs : Nat)] 117)) := ht.alloc _
          have hS1 : ∀ i, (wr.alloc (.cells #[.pointer (some ⟨φ xf, 0, none⟩), .int .i64 (xs : Nat)] 117)).heap.size ≤ i → S i := fun i hi => hS i (Nat.le_trans t1.size hi)
          have hcut := cut_any hL1 hS1 o1 o2 o3 ⟨o4, o5⟩
          generalize cuts R1 (R1.wr.take k) = Rk at *
          go_wp2_with fail
          refine hcut.mono ?_
          rintro e w2 ⟨⟨v, rfl⟩, ⟨σ3, hL3⟩, t2⟩
          clear hcut hL hL1 d1 d2
          go_wp2
          go_roundw
          case rel => exact ⟨k + 1, σ3, by omega, by go_num, by rw [HC.out]; exact hL3, t1.trans t2⟩
          case measure => simp only [intOf]; omega
        · have hkn : k = j := by omega
          subst hkn
          have hall : R1.wr.take k = R1.wr := by rw [Hw1.out.1, ← HN.out, List.take_length]
          rw [hall] at hL
          obtain ⟨-, c1, c2, -, -, -, -, -, -, cf⟩ := hL.cells
          have h5 := hL.setB (v' := .slice none 0 0) (l := []) ⟨rfl, rfl, rfl, Nat.le_refl _, fun _ _ _ => rfl⟩ (World.ownsRow_nil _ _ _ _) (fun v hv => by cases hv) (.inr fun g hg => by cases hg) (fun i hi => hS i (Nat.le_trans ht.size hi))
          have h6 := h5.setD 2 (.int .i64 0) { cuts R1 R1.wr with wr := [], pending := 0 } rfl rfl rfl rfl rfl rfl
          have t6 := (ht.setCell (p := ⟨d, 1, none⟩) (.inl hL.sD) (.slice none 0 0)).setCell (p := ⟨d, 2, none⟩) (.inl hL.sD) (.int .i64 0)
          have HE : Hid ({ cuts R1 R1.wr with wr := [], pending := 0 } = R.settled n) := by
            show _ = _
            unfold RD.settled
            rw [HF.out, HR1.out, Hw1.out.1]
          generalize ({ cuts R1 R1.wr with wr := [], pending := 0 } : RD) = R2 at *
          clear h5 hok
          go_wp2
          go_end0
          exact ⟨⟨_, rfl⟩, ⟨σ2, by rw [← HE.out]; exact h6⟩, t6⟩
end
def wrs (buf : List (ByteArray × List Int)) : List (ByteArray × Nat) := buf.map fun w => (w.1, w.2.length)
def DM.raw (M : DM) (mn : Nat) (kv : Int) : RD := ⟨M.names, M.bytes, fun x => (lk M.L x).length, wrs M.buf, mn, (tot M.buf : Nat), (M.blocks : Nat), (M.used : Nat), !M.off, (M.ops : Nat), (M.n : Nat), kv⟩
def DM.raw1 (M : DM) (mn : Nat) (kv : Int) (n : Nat) : RD := { M.raw mn kv with su := sureL n (wrs M.buf) (fun x => (lk M.L x).length) }
def DiskF (w : World) (d : Nat) (S : Nat → Prop) (φ : ByteArray → Nat) (M : DM) : Prop := ∃ σ mb vb mn kv, Lies8 w d S φ σ mb vb (M.raw mn kv) ∧ (M.n ≠ 0 → kv = M.keep)
def DiskAt (w : World) (d : Nat) (S : Nat → Prop) (M : DM) : Prop := ∃ φ, DiskF w d S φ M
theorem DiskF.same {w w' : World} {d : Nat} {S : Nat → Prop} {φ : ByteArray → Nat} {M : DM} (h : DiskF w d S φ M) (hs : ∀ k, k < w.heap.size → S k → w'.heap[k]? = w.heap[k]?) : DiskF w' d S φ M := by
  obtain ⟨σ, mb, vb, mn, kv, h1, h2⟩ := h
  exact ⟨σ, mb, vb, mn, kv, h1.same hs, h2⟩
theorem DiskF.below {w w' : World} {d : Nat} {S : Nat → Prop} {φ : ByteArray → Nat} {M : DM} (h : DiskF w d S φ M) (hb : Below w.heap.size w w') : DiskF w' d S φ M := h.same fun k hk _ => hb.block k hk
theorem DiskAt.same {w w' : World} {d : Nat} {S : Nat → Prop} {M : DM} (h : DiskAt w d S M) (hs : ∀ k, k < w.heap.size → S k → w'.heap[k]? = w.heap[k]?) : DiskAt w' d S M := by
  obtain ⟨φ, σ, mb, vb, mn, kv, h1, h2⟩ := h
  exact ⟨φ, σ, mb, vb, mn, kv, h1.same hs, h2⟩
theorem DiskAt.below {w w' : World} {d : Nat} {S : Nat → Prop} {M : DM} (h : DiskAt w d S M) (hb : Below w.heap.size w w') : DiskAt w' d S M := h.same fun k hk _ => hb.block k hk
theorem DiskAt.mono {w : World} {d : Nat} {S S' : Nat → Prop} {M : DM} (h : DiskAt w d S M) (hS : ∀ k, k < w.heap.size → S k → S' k) : DiskAt w d S' M := by
  obtain ⟨φ, σ, mb, vb, mn, kv, h1, h2⟩ := h
  exact ⟨φ, σ, mb, vb, mn, kv, h1.mono hS, h2⟩

theorem Lies8.congr {w : World} {d : Nat} {S : Nat → Prop} {φ : ByteArray → Nat} {σ : ByteArray → Value} {mb : Nat} {vb : Value} {R R' : RD} (h : Lies8 w d S φ σ mb vb R) (hn : ∀ x, x ∈ R'.names ↔ x ∈ R.names) (hb : ∀ x ∈ R.names, R'.bt x = R.bt x) (hs : ∀ x ∈ R.names, R'.su x = R.su x) (hw : R'.wr = R.wr) (hm : R'.mn = R.mn)
    (e1 : R'.pending = R.pending) (e2 : R'.blocks = R.blocks) (e3 : R'.used = R.used) (e4 : R'.on = R.on) (e5 : R'.ops = R.ops) (e6 : R'.armed = R.armed) (e7 : R'.keep = R.keep) : Lies8 w d S φ σ mb vb R' := by
  refine ⟨?_, ?_, by rw [hw]; exact h.buf, fun x hx => ?_, fun x hx => ?_, fun x hx y hy => h.inj x ((hn x).1 hx) y ((hn y).1 hy), fun x hx y hy => h.apart x ((hn x).1 hx) y ((hn y).1 hy), fun v hv => (hn _).2 (h.mem v (by rw [← hw]; exact hv)), h.sD, h.sM, h.sB, fun x hx => h.sF x ((hn x).1 hx), fun x hx => h.sR x ((hn x).1 hx)⟩
  · have := h.obj
    unfold objV at this ⊢
    rw [e1, e2, e3, e4, e5, e6, e7]
    exact this
  · rw [hm]
    exact h.map.congr hn fun x _ => rfl
  · rw [hs x ((hn x).1 hx)]
    exact h.file x ((hn x).1 hx)
  · rw [hb x ((hn x).1 hx)]
    exact h.row x ((hn x).1 hx)

theorem used_sum {buf : List (ByteArray × List Int)} : ∀ {L : List (ByteArray × List Int)}, (nms L).Nodup → usedL buf L = sumN (fun x => need (lk L x ++ pend buf x).length) (nms L)
  | [], _ => rfl
  | f :: r, h => by
    have h' := List.nodup_cons.1 (by exact h : (f.1 :: nms r).Nodup)
    show need (f.2.length + (pend buf f.1).length) + usedL buf r = need (lk (f :: r) f.1 ++ pend buf f.1).length + sumN _ (nms r)
    rw [used_sum h'.2, lk, if_pos rfl, List.length_append]
    congr 1
    refine sumN_congr fun x hx => ?_
    rw [lk, if_neg fun e => h'.1 (by rw [e]; exact hx)]
theorem sureL_eq : ∀ (buf : List (ByteArray × List Int)) (n : Nat) (su : ByteArray → Nat) (x : ByteArray), sureL n (wrs buf) su x = su x + (left n buf x).length
  | [], _, _, _ => rfl
  | w :: r, n, su, x => by
    show sureL (n - w.2.length) (wrs r) (upd su w.1 (su w.1 + min w.2.length n)) x = _
    rw [sureL_eq r, left, List.length_append]
    by_cases hx : w.1 = x
    · rw [if_pos hx, ← hx, upd_at, List.length_take, Nat.min_comm n]
      omega
    · rw [if_neg hx, upd_ne (Ne.symm hx)]
      simp
theorem totW_wrs : ∀ buf : List (ByteArray × List Int), totW (wrs buf) = tot buf
  | [] => rfl
  | w :: r => by show w.2.length + totW (wrs r) = _; rw [totW_wrs r, tot]
theorem wrs_mem {buf : List (ByteArray × List Int)} {v : ByteArray × Nat} (h : v ∈ wrs buf) : ∃ w ∈ buf, w.1 = v.1 ∧ w.2.length = v.2 := by
  obtain ⟨w, hw, rfl⟩ := List.mem_map.1 h
  exact ⟨w, hw, rfl, rfl⟩
theorem wrs_names (buf : List (ByteArray × List Int)) (x : ByteArray) : x ∈ (wrs buf).map Prod.fst ↔ ∃ w ∈ buf, w.1 = x := by
  unfold wrs
  rw [List.map_map]
  simp [List.mem_map]
theorem tot_le {M : DM} (hI : M.Inv) : tot M.buf ≤ 1073741824 := by
  have hn := hI.nodup
  have hmem := hI.mem
  have : tot M.buf ≤ 64 * usedL M.buf M.L := by
    have key : ∀ (L : List (ByteArray × List Int)) (buf : List (ByteArray × List Int)), (nms L).Nodup → (∀ w ∈ buf, w.1 ∈ nms L) → tot buf ≤ 64 * usedL buf L := by
      intro L
      induction L with
      | nil =>
        intro buf _ hm
        cases buf with
        | nil => exact Nat.le_refl _
        | cons w r => exact absurd (hm w List.mem_cons_self) (by simp [nms])
      | cons f r ih =>
        intro buf hn hm
        have h' := List.nodup_cons.1 (by exact hn : (f.1 :: nms r).Nodup)
        have h1 := ih (buf.filter fun w => decide (w.1 ≠ f.1)) h'.2 (fun w hw => by
          obtain ⟨h2, h3⟩ := List.mem_filter.1 hw
          rcases List.mem_cons.1 (by exact hm w h2 : w.1 ∈ f.1 :: nms r) with h4 | h4
          · exact absurd h4 (of_decide_eq_true h3)
          · exact h4)
        have h2 := tot_gone buf f.1
        have h3 : usedL (buf.filter fun w => decide (w.1 ≠ f.1)) r = usedL buf r := used_congr fun g hg => by
          rw [pend_gone _ _ _ fun e => h'.1 (by rw [← e]; exact List.mem_map_of_mem hg)]
        have h4 := need_le (f.2.length + (pend buf f.1).length)
        rw [usedL]
        rw [h3] at h1
        omega
    exact key M.L M.buf hn hmem
  have h2 := hI.fits
  have h3 := hI.top
  unfold DM.used at h2
  omega
theorem DM.Inv.sizes {M : DM} (hI : M.Inv) : M.used ≤ 16777216 ∧ tot M.buf ≤ 1073741824 ∧ ∀ x, (M.bytes x).length ≤ 1073741824 ∧ (lk M.L x).length ≤ (M.bytes x).length :=
  ⟨Nat.le_trans hI.fits hI.top, tot_le hI, fun x => ⟨Nat.le_of_lt (hI.size x), by unfold DM.bytes; rw [List.length_append]; omega⟩⟩

theorem settled_lies {w : World} {d : Nat} {S : Nat → Prop} {φ : ByteArray → Nat} {σ : ByteArray → Value} {mb : Nat} {vb : Value} {M : DM} {mn : Nat} {kv : Int} (hI : M.Inv) (n : Nat) (h : Lies8 w d S φ σ mb vb ((M.raw mn kv).settled n)) :
    Lies8 w d S φ σ mb vb (DM.raw { M.crash n with off := M.off } mn kv) := by
  have hnd := hI.nodup
  have hm : ∀ v ∈ wrs M.buf, v.1 ∈ M.names := fun v hv => by
    obtain ⟨u, hu, e, _⟩ := wrs_mem hv
    rw [← e]; exact hI.mem u hu
  have hsu : ∀ x, sureL n (wrs M.buf) (fun x => (lk M.L x).length) x = (lk M.L x).length + (left n M.buf x).length := fun x => sureL_eq _ _ _ _
  have hle : ∀ x, sureL n (wrs M.buf) (fun x => (lk M.L x).length) x ≤ (M.bytes x).length := fun x => by
    rw [hsu]; unfold DM.bytes; rw [List.length_append]; have := left_le M.buf x n; omega
  obtain ⟨k1, k2, k3, k4, k5, k6, k7, k8, k9, k10⟩ := cuts_keeps (wrs M.buf) (M.raw1 mn kv n)
  have hbt : ∀ x ∈ M.names, (cuts (M.raw1 mn kv n) (wrs M.buf)).bt x = lk M.L x ++ left n M.buf x := by
    intro x _
    rw [cuts_bt]
    show (if x ∈ (wrs M.buf).map Prod.fst then (M.bytes x).take (sureL n (wrs M.buf) (fun x => (lk M.L x).length) x) else M.bytes x) = _
    by_cases hx : x ∈ (wrs M.buf).map Prod.fst
    · rw [if_pos hx, hsu]
      exact left_take M.buf x n _
    · rw [if_neg hx]
      have hp : pend M.buf x = [] := pend_none fun w hw e => hx ((wrs_names _ _).2 ⟨w, hw, e⟩)
      have hl : left n M.buf x = [] := List.eq_nil_of_length_eq_zero (by have := left_le M.buf x n; rw [hp] at this; simpa using this)
      unfold DM.bytes
      rw [hp, hl]
  have hnames : DM.names { M.crash n with off := M.off } = M.names := DM.nms_map M.L _
  have hlk : ∀ x ∈ M.names, lk (DM.L { M.crash n with off := M.off }) x = lk M.L x ++ left n M.buf x := fun x hx => DM.lk_map (fun x => left n M.buf x) hx
  have hn' : (n : Int).toNat = n := Int.toNat_natCast n
  obtain ⟨u1, _⟩ := cuts_used (wrs M.buf) (M.raw1 mn kv n) hnd hm (fun x _ => hle x) (by show ((M.used : Nat) : Int) = _; unfold DM.used; rw [used_sum hnd]; rfl)
  have e3 : (({ M.crash n with off := M.off } : DM).used : Int) = ((M.raw mn kv).settled n).used := by
    show _ = (cuts (M.raw1 mn kv n) (wrs M.buf)).used
    rw [u1]
    have hnd2 : (nms (DM.L { M.crash n with off := M.off })).Nodup := by
      have : nms (DM.L { M.crash n with off := M.off }) = nms M.L := DM.nms_map M.L _
      rw [this]; exact hnd
    unfold DM.used
    rw [used_sum hnd2]
    show ((sumN _ (nms (DM.L { M.crash n with off := M.off })) : Nat) : Int) = (sumN _ M.names : Nat)
    rw [show nms (DM.L { M.crash n with off := M.off }) = M.names from DM.nms_map M.L _]
    congr 1
    refine sumN_congr fun x hx => ?_
    rw [hbt x hx, hlk x hx]
    show need (_ ++ pend [] x).length = _
    rw [pend, List.append_nil]
  refine h.congr (fun x => ?_) (fun x hx => ?_) (fun x hx => ?_) rfl ?_ rfl ?_ e3 ?_ ?_ ?_ ?_
  · show x ∈ DM.names { M.crash n with off := M.off } ↔ x ∈ (cuts (M.raw1 mn kv n) (wrs M.buf)).names
    rw [hnames, k1]
    exact Iff.rfl
  · have hx' : x ∈ M.names := by
      have : x ∈ (cuts (M.raw1 mn kv n) (wrs M.buf)).names := hx
      rw [k1] at this; exact this
    show DM.bytes { M.crash n with off := M.off } x = (cuts (M.raw1 mn kv n) (wrs M.buf)).bt x
    rw [hbt x hx']
    unfold DM.bytes
    rw [hlk x hx']
    show _ ++ pend [] x = _
    rw [pend, List.append_nil]
  · have hx' : x ∈ M.names := by
      have : x ∈ (cuts (M.raw1 mn kv n) (wrs M.buf)).names := hx
      rw [k1] at this; exact this
    show (lk (DM.L { M.crash n with off := M.off }) x).length = (cuts (M.raw1 mn kv n) (wrs M.buf)).su x
    rw [hlk x hx', k2, List.length_append]
    exact (hsu x).symm
  · exact k4.symm
  · exact k6.symm
  · exact k7.symm
  · exact k8.symm
  · exact k9.symm
  · exact k10.symm
theorem drop_lies {w : World} {d : Nat} {S : Nat → Prop} {φ : ByteArray → Nat} {σ : ByteArray → Value} {mb : Nat} {vb : Value} {M : DM} {mn : Nat} {kv : Int} (hI : M.Inv) {x : ByteArray} (hx : x ∈ M.names) (h : Lies8 w d S φ σ mb vb ((M.raw mn kv).drop x)) : Lies8 w d S φ σ mb vb ((M.gone x).raw mn kv) := by
  have hn : ∀ y, y ∈ (M.gone x).names ↔ y ∈ without M.names x := fun y => (DM.names_gone M x y).trans (mem_without _ _ _).symm
  refine h.congr hn (fun y hy => DM.bytes_gone M ((mem_without _ _ _).1 hy).2) (fun y hy => ?_) ?_ rfl ?_ rfl ?_ rfl rfl rfl rfl
  · show (lk (M.L.filter fun f => decide (f.1 ≠ x)) y).length = (lk M.L y).length
    rw [lk_filter ((mem_without _ _ _).1 hy).2]
  · show wrs (M.buf.filter fun w => decide (w.1 ≠ x)) = (wrs M.buf).filter fun v => decide (v.1 ≠ x)
    unfold wrs
    rw [List.filter_map]
    rfl
  · show ((tot (M.buf.filter fun w => decide (w.1 ≠ x)) : Nat) : Int) = (tot M.buf : Nat) - ((M.bytes x).length - ((lk M.L x).length : Nat))
    have := tot_gone M.buf x
    unfold DM.bytes
    rw [List.length_append]
    omega
  · show (((M.gone x).used : Nat) : Int) = (M.used : Nat) - (need (M.bytes x).length : Nat)
    have := DM.used_gone hI hx
    omega

section
variable {w : World} {d : Nat} {S : Nat → Prop} {φ : ByteArray → Nat} {M : DM}
set_option maxRecDepth 10000 in
set_option maxHeartbeats 1000000 in
theorem crash_any (hD : DiskF w d S φ M) (hI : M.Inv) (hS : ∀ k, w.heap.size ≤ k → S k) (ho : M.ops ≤ 1099511627776) (k : Int) (hk : -9223372036854775808 ≤ k ∧ k ≤ 9223372036854775807) :
    Calls Tryz.prog 23 #[.pointer (some ⟨d, 0, none⟩), .int .i64 k] w fun e w' => (∃ v, e = .returned v) ∧ DiskF w' d S φ (M.crash k) ∧ Turn S w w' := by
  obtain ⟨σ, mb, vb, mn, kv, h, hkv⟩ := hD
  obtain ⟨c0, -⟩ := h.cells
  obtain ⟨z1, z2, z3⟩ := hI.sizes
  have hdlt := h.lt
  have hwl : ((wrs M.buf).length : Int) ≤ 9223372036854775807 := by
    have := hI.few
    unfold wrs
    rw [List.length_map]
    omega
  obtain ⟨n, Hn⟩ : ∃ n : Nat, Hid (k.toNat = n) := ⟨_, rfl⟩
  have hn64 : (n : Int) ≤ 9223372036854775807 := by rw [← Hn.out]; omega
  have hba : Below w.heap.size w (w.alloc (.cells #[.int .i64 (n : Nat)] 3)) := (Below.refl _ _).alloc (Nat.le_refl _) _
  have hA := heap_alloc_new w (.cells #[.int .i64 (n : Nat)] 3)
  have hza : (w.alloc (.cells #[.int .i64 (n : Nat)] 3)).heap.size = w.heap.size + 1 := by simp
  have h1 := (h.mono (S' := fun i => S i ∧ i < w.heap.size ∨ w.heap.size + 1 ≤ i) fun i hi hs => .inl ⟨hs, hi⟩).below hba
  have hset := settle_c h1 (fun i hi => .inr (by omega)) n w.heap.size hA (by omega) hn64 hwl
    (fun x hx => by
      have h5 := (z3 x).1
      have h6 := (z3 x).2
      show (lk M.L x).length + totW (wrs M.buf) ≤ _
      rw [totW_wrs]
      omega) hI.nodup
    (fun x hx => by
      show sureL n (wrs M.buf) (fun x => (lk M.L x).length) x ≤ (M.bytes x).length
      rw [sureL_eq]
      unfold DM.bytes
      rw [List.length_append]
      have := left_le M.buf x n
      omega)
    (fun x hx => (z3 x).1) (by show ((M.used : Nat) : Int) = _; unfold DM.used; rw [used_sum hI.nodup]; rfl) (by show ((M.used : Nat) : Int) ≤ _; omega)
  have hmade := made_any8 d (some mb) w c0
  have fin : ∀ w2 : World, (∃ σ', Lies8 w2 d (fun i => S i ∧ i < w.heap.size ∨ w.heap.size + 1 ≤ i) φ σ' mb (.slice none 0 0) ((M.raw mn kv).settled n)) → Turn (fun i => (S i ∧ i < w.heap.size ∨ w.heap.size + 1 ≤ i) ∨ i = w.heap.size) (w.alloc (.cells #[.int .i64 (n : Nat)] 3)) w2 →
      w2.cell? ⟨d, 5, none⟩ = some (.bool !M.off) ∧ w2.frozen? ⟨d, 5, none⟩ = false ∧ DiskF (w2.setCell ⟨d, 5, none⟩ (.bool false)) d S φ (M.crash k) ∧ Turn S w (w2.setCell ⟨d, 5, none⟩ (.bool false)) := by
    rintro w2 ⟨σ', h2⟩ t2
    have h3 := settled_lies hI n h2
    obtain ⟨-, -, -, -, -, c5, -, -, -, cf⟩ := h3.cells
    have h4 := h3.setD 5 (.bool false) { (DM.raw { M.crash n with off := M.off } mn kv) with on := false } rfl rfl rfl rfl rfl rfl
    have hsz := t2.size
    have hSS : ∀ i, (S i ∧ i < w.heap.size ∨ w.heap.size + 1 ≤ i) → S i := fun i hi => hi.elim (fun h => h.1) fun h => hS i (by omega)
    refine ⟨c5, cf 5, ⟨σ', mb, _, mn, kv, (h4.mono (S' := S) fun i _ hi => hSS i hi).congr (fun x => ?_) (fun x _ => ?_) (fun x _ => ?_) rfl rfl rfl rfl ?_ rfl rfl rfl rfl, hkv⟩, ?_⟩
    · show x ∈ DM.names (M.crash k) ↔ x ∈ DM.names { M.crash n with off := M.off }
      unfold DM.crash
      rw [Hn.out]
      exact Iff.rfl
    · show DM.bytes (M.crash k) x = DM.bytes { M.crash n with off := M.off } x
      unfold DM.crash
      rw [Hn.out]
      rfl
    · show (lk (M.crash k).L x).length = (lk (M.crash n).L x).length
      unfold DM.crash
      rw [Hn.out]
      rfl
    · show (((M.crash k).used : Nat) : Int) = (DM.used { M.crash n with off := M.off } : Nat)
      unfold DM.crash
      rw [Hn.out]
      rfl
    · refine ((Turn.of_below hba (Nat.le_refl _)).wide t2 fun i hi => ?_).setCell (p := ⟨d, 5, none⟩) (.inl h.sD) _
      rcases hi with hi | hi
      · exact .inl (hSS i hi)
      · exact .inr (by omega)
  clear h1 hA hba z1 z2 z3 hwl
  by_cases hk0 : 0 ≤ k
  · obtain rfl : k = (n : Int) := by rw [← Hn.out]; omega
    go_enter Tryz.func23, Tryz.ntmps23
    go_wp2_with fail
    refine same_mono hmade ?_
    go_wp2_with fail
    refine hset.mono ?_
    rintro e w2 ⟨⟨v, rfl⟩, h2, t2⟩
    obtain ⟨c5, f5, r1, r2⟩ := fin w2 h2 t2
    clear fin hset h2 t2
    go_wp2
    go_end0
    exact ⟨⟨_, rfl⟩, r1, r2⟩
  · obtain rfl : n = 0 := by rw [← Hn.out]; omega
    have hk0' : k < 0 := by omega
    go_enter Tryz.func23, Tryz.ntmps23
    go_wp2_with fail
    refine same_mono hmade ?_
    go_wp2_with fail
    refine hset.mono ?_
    rintro e w2 ⟨⟨v, rfl⟩, h2, t2⟩
    obtain ⟨c5, f5, r1, r2⟩ := fin w2 h2 t2
    clear fin hset h2 t2
    go_wp2
    go_end0
    exact ⟨⟨_, rfl⟩, r1, r2⟩

theorem toNat_one {n : Nat} (h : n ≠ 0) (h1 : n ≠ 1) : (0 : Int) < (n : Int) - 1 ∧ ((n - 1 : Nat) : Int) = (n : Int) - 1 := by omega
set_option maxRecDepth 10000 in
set_option maxHeartbeats 1000000 in
theorem begin_any (hD : DiskF w d S φ M) (hI : M.Inv) (hS : ∀ k, w.heap.size ≤ k → S k) (ho : M.ops < 1099511627776) (hn : (M.n : Int) ≤ 9223372036854775807) (hk : -9223372036854775808 ≤ M.keep ∧ M.keep ≤ 9223372036854775807) :
    Calls Tryz.prog 86 #[.pointer (some ⟨d, 0, none⟩)] w fun e w' => e = .returned (.int .i64 (if M.begins = true then 0 else 9)) ∧ DiskF w' d S φ M.begun ∧ Turn S w w' := by
  obtain ⟨σ, mb, vb, mn, kv, h, hkv⟩ := hD
  obtain ⟨-, -, -, -, -, -, c6, c7, c8, cf⟩ := h.cells
  have h1 := h.setD 6 (.int .i64 ((M.ops : Nat) + 1)) { M.raw mn kv with ops := (M.ops : Nat) + 1 } rfl rfl rfl rfl rfl rfl
  have t1 := (Turn.refl S w).setCell (p := ⟨d, 6, none⟩) (.inl h.sD) (.int .i64 ((M.ops : Nat) + 1))
  have hsz1 : (w.setCell ⟨d, 6, none⟩ (.int .i64 ((M.ops : Nat) + 1))).heap.size = w.heap.size := by simp [World.setCell]
  have c6' : w.cell? ⟨d, 6, none⟩ = some (.int .i64 (M.ops : Nat)) := c6
  have c7' : w.cell? ⟨d, 7, none⟩ = some (.int .i64 (M.n : Nat)) := c7
  have f6 := cf 6
  clear c6 c7 c8 cf
  by_cases hn0 : M.n = 0
  · have e1 : M.begins = true := by unfold DM.begins; rw [hn0]; rfl
    have e2 : M.begun = { M with ops := M.ops + 1, n := 0 } := by unfold DM.begun; rw [if_neg (by omega), hn0]
    rw [if_pos e1, e2]
    rw [hn0] at c7'
    go_enter Tryz.func86, Tryz.ntmps86
    go_wp2
    go_ret
    refine ⟨rfl, ⟨σ, mb, vb, mn, kv, ?_, fun h => absurd rfl h⟩, t1⟩
    refine h1.congr (fun _ => Iff.rfl) (fun _ _ => rfl) (fun _ _ => rfl) rfl rfl rfl rfl rfl rfl ?_ ?_ rfl
    · show ((M.ops + 1 : Nat) : Int) = (M.ops : Int) + 1
      omega
    · show ((0 : Nat) : Int) = (M.n : Nat)
      rw [hn0]
  · by_cases hn1 : M.n = 1
    · have e1 : ¬ M.begins = true := by unfold DM.begins; rw [hn1]; decide
      have e2 : M.begun = ({ M with ops := M.ops + 1, n := 0 } : DM).crash M.keep := by unfold DM.begun; rw [if_pos hn1]
      have hkk := hkv (by omega)
      rw [if_neg e1, e2]
      have h2 := h1.setD 7 (.int .i64 0) { M.raw mn kv with ops := (M.ops : Nat) + 1, armed := 0 } rfl rfl rfl rfl rfl rfl
      have t2 := t1.setCell (p := ⟨d, 7, none⟩) (.inl h.sD) (.int .i64 0)
      have hsz2 : ((w.setCell ⟨d, 6, none⟩ (.int .i64 ((M.ops : Nat) + 1))).setCell ⟨d, 7, none⟩ (.int .i64 0)).heap.size = w.heap.size := by simp [World.setCell]
      have hD2 : DiskF ((w.setCell ⟨d, 6, none⟩ (.int .i64 ((M.ops : Nat) + 1))).setCell ⟨d, 7, none⟩ (.int .i64 0)) d S φ { M with ops := M.ops + 1, n := 0 } := by
        refine ⟨σ, mb, vb, mn, kv, ?_, fun h => absurd rfl h⟩
        refine h2.congr (fun _ => Iff.rfl) (fun _ _ => rfl) (fun _ _ => rfl) rfl rfl rfl rfl rfl rfl ?_ rfl rfl
        show ((M.ops + 1 : Nat) : Int) = (M.ops : Int) + 1
        omega
      have hI2 : DM.Inv { M with ops := M.ops + 1, n := 0 } := ⟨hI.rise, hI.good, hI.mem, hI.isL, hI.isW, hI.fits, hI.top, Nat.le_succ_of_le hI.few⟩
      have hcr := crash_any hD2 hI2 (fun i hi => hS i (by omega)) (by show M.ops + 1 ≤ _; omega) M.keep hk
      obtain ⟨-, -, -, -, -, -, -, k7, k8, -⟩ := h2.cells
      obtain ⟨-, -, -, -, -, -, -, j7, -, jf⟩ := h1.cells
      have j7' : (w.setCell ⟨d, 6, none⟩ (.int .i64 ((M.ops : Nat) + 1))).cell? ⟨d, 7, none⟩ = some (.int .i64 1) := by rw [j7]; show some (Value.int .i64 ((M.n : Nat) : Int)) = _; rw [hn1]; rfl
      have jf7 := jf 7
      dsimp only at k7 k8
      have k8' : ((w.setCell ⟨d, 6, none⟩ (.int .i64 ((M.ops : Nat) + 1))).setCell ⟨d, 7, none⟩ (.int .i64 0)).cell? ⟨d, 8, none⟩ = some (.int .i64 M.keep) := by rw [k8]; show some (Value.int .i64 kv) = _; rw [hkk]
      rw [hn1] at c7'
      clear j7 k8
      go_enter Tryz.func86, Tryz.ntmps86
      go_wp2_with fail
      refine hcr.mono ?_
      rintro e w2 ⟨⟨v, rfl⟩, r1, r2⟩
      go_wp2
      go_ret
      exact ⟨rfl, r1, t2.trans r2⟩
    · have e1 : M.begins = true := by unfold DM.begins; exact decide_eq_true hn1
      have e2 : M.begun = { M with ops := M.ops + 1, n := M.n - 1 } := by unfold DM.begun; rw [if_neg hn1]
      obtain ⟨n1, n2⟩ := toNat_one hn0 hn1
      rw [if_pos e1, e2]
      have h2 := h1.setD 7 (.int .i64 ((M.n : Nat) - 1)) { M.raw mn kv with ops := (M.ops : Nat) + 1, armed := (M.n : Nat) - 1 } rfl rfl rfl rfl rfl rfl
      have t2 := t1.setCell (p := ⟨d, 7, none⟩) (.inl h.sD) (.int .i64 ((M.n : Nat) - 1))
      obtain ⟨-, -, -, -, -, -, -, k7, -, -⟩ := h2.cells
      obtain ⟨-, -, -, -, -, -, -, j7, -, jf⟩ := h1.cells
      have j7' : (w.setCell ⟨d, 6, none⟩ (.int .i64 ((M.ops : Nat) + 1))).cell? ⟨d, 7, none⟩ = some (.int .i64 (M.n : Nat)) := j7
      have jf7 := jf 7
      dsimp only at k7
      have hn0' : ((M.n : Int) == 0) = false := by rw [beq_eq_false_iff_ne]; omega
      clear j7
      go_enter Tryz.func86, Tryz.ntmps86
      go_wp2
      go_ret
      refine ⟨rfl, ⟨σ, mb, vb, mn, kv, ?_, fun _ => hkv hn0⟩, t2⟩
      refine h2.congr (fun _ => Iff.rfl) (fun _ _ => rfl) (fun _ _ => rfl) rfl rfl rfl rfl rfl rfl ?_ ?_ rfl
      · show ((M.ops + 1 : Nat) : Int) = (M.ops : Int) + 1
        omega
      · exact n2
end
structure DM.Ok (M : DM) : Prop where
  inv : M.Inv
  ops : M.ops < 1099511627776
  n : (M.n : Int) ≤ 9223372036854775807
  keep : -9223372036854775808 ≤ M.keep ∧ M.keep ≤ 9223372036854775807
section
variable {w w' : World} {d : Nat} {S : Nat → Prop} {φ : ByteArray → Nat} {σ : ByteArray → Value} {mb : Nat} {vb : Value} {R : RD} {M : DM}
theorem begin_yesF (hD : DiskF w d S φ M) (hO : M.Ok) (hS : ∀ k, w.heap.size ≤ k → S k) (hb : M.begins = true) :
    Calls Tryz.prog 86 #[.pointer (some ⟨d, 0, none⟩)] w fun e w' => e = .returned (.int .i64 0) ∧ DiskF w' d S φ M.begun ∧ Turn S w w' := by
  have := begin_any hD hO.inv hS hO.ops hO.n hO.keep
  rw [if_pos hb] at this
  exact this
theorem begin_yes (hD : DiskAt w d S M) (hO : M.Ok) (hS : ∀ k, w.heap.size ≤ k → S k) (hb : M.begins = true) :
    Calls Tryz.prog 86 #[.pointer (some ⟨d, 0, none⟩)] w fun e w' => e = .returned (.int .i64 0) ∧ DiskAt w' d S M.begun ∧ Turn S w w' := by
  obtain ⟨φ, hD⟩ := hD
  exact (begin_yesF hD hO hS hb).mono fun e w' ⟨h1, h2, h3⟩ => ⟨h1, ⟨φ, h2⟩, h3⟩
theorem begin_noF (hD : DiskF w d S φ M) (hO : M.Ok) (hS : ∀ k, w.heap.size ≤ k → S k) (hb : M.begins = false) :
    Calls Tryz.prog 86 #[.pointer (some ⟨d, 0, none⟩)] w fun e w' => e = .returned (.int .i64 9) ∧ DiskF w' d S φ M.begun ∧ Turn S w w' := by
  have := begin_any hD hO.inv hS hO.ops hO.n hO.keep
  rw [if_neg (by rw [hb]; decide)] at this
  exact this
theorem begin_no (hD : DiskAt w d S M) (hO : M.Ok) (hS : ∀ k, w.heap.size ≤ k → S k) (hb : M.begins = false) :
    Calls Tryz.prog 86 #[.pointer (some ⟨d, 0, none⟩)] w fun e w' => e = .returned (.int .i64 9) ∧ DiskAt w' d S M.begun ∧ Turn S w w' := by
  obtain ⟨φ, hD⟩ := hD
  exact (begin_noF hD hO hS hb).mono fun e w' ⟨h1, h2, h3⟩ => ⟨h1, ⟨φ, h2⟩, h3⟩
theorem ready_on (hD : DiskAt w d S M) (hf : M.off = false) : Calls Tryz.prog 77 #[.pointer (some ⟨d, 0, none⟩)] w fun e w' => e = .returned (.int .i64 0) ∧ w' = w := by
  obtain ⟨φ, σ, mb, vb, mn, kv, h, _⟩ := hD
  have := ready_any h
  rw [show (M.raw mn kv).on = true by show (!M.off) = true; rw [hf]; rfl] at this
  exact this
theorem ready_off (hD : DiskAt w d S M) (hf : M.off = true) : Calls Tryz.prog 77 #[.pointer (some ⟨d, 0, none⟩)] w fun e w' => e = .returned (.int .i64 9) ∧ w' = w := by
  obtain ⟨φ, σ, mb, vb, mn, kv, h, _⟩ := hD
  have := ready_any h
  rw [show (M.raw mn kv).on = false by show (!M.off) = false; rw [hf]; rfl] at this
  exact this
theorem settleM (hD : DiskAt w d S M) (hI : M.Inv) (hS : ∀ k, w.heap.size ≤ k → S k) (ho : M.ops ≤ 1099511627776) :
    Calls Tryz.prog 79 #[.pointer (some ⟨d, 0, none⟩), .func (.func 128) #[] #[]] w fun e w' => (∃ v, e = .returned v) ∧ DiskAt w' d S M.sync ∧ Turn S w w' := by
  obtain ⟨φ, σ, mb, vb, mn, kv, h, hkv⟩ := hD
  obtain ⟨z1, z2, z3⟩ := hI.sizes
  have hwl : ((wrs M.buf).length : Int) ≤ 9223372036854775807 := by
    have := hI.few
    unfold wrs
    rw [List.length_map]
    omega
  refine (settle_s h hS (tot M.buf) (Nat.le_of_eq (totW_wrs _)) hwl
    (fun x hx => by
      have h5 := (z3 x).1
      have h6 := (z3 x).2
      show (lk M.L x).length + totW (wrs M.buf) ≤ _
      rw [totW_wrs]
      omega) hI.nodup
    (fun x hx => by
      show sureL _ (wrs M.buf) (fun x => (lk M.L x).length) x ≤ (M.bytes x).length
      rw [sureL_eq]
      unfold DM.bytes
      rw [List.length_append]
      have := left_le M.buf x (tot M.buf)
      omega)
    (fun x hx => (z3 x).1) (by show ((M.used : Nat) : Int) = _; unfold DM.used; rw [used_sum hI.nodup]; rfl) (by show ((M.used : Nat) : Int) ≤ _; omega)).mono ?_
  rintro e w2 ⟨hv, ⟨σ', h2⟩, t2⟩
  refine ⟨hv, ⟨φ, σ', mb, .slice none 0 0, mn, kv, ?_, hkv⟩, t2⟩
  rw [DM.sync_eq]
  exact settled_lies hI _ h2
set_option maxRecDepth 10000 in
theorem sync_any (hD : DiskAt w d S M) (hO : M.Ok) (hS : ∀ k, w.heap.size ≤ k → S k) :
    Calls Tryz.prog 69 #[.pointer (some ⟨d, 0, none⟩)] w fun e w' => e = .returned (.int .i64 (M.syncs.1 : Nat)) ∧ DiskAt w' d S M.syncs.2 ∧ Turn S w w' := by
  cases hf : M.off with
  | true =>
    have e : M.syncs = (9, M) := by unfold DM.syncs; rw [if_pos hf]
    rw [e]
    have hr := ready_off hD hf
    go_enter Tryz.func69, Tryz.ntmps69
    go_wp2_with fail
    refine same_mono hr ?_
    go_wp2
    go_ret
    exact ⟨rfl, hD, Turn.refl _ _⟩
  | false =>
    have hr := ready_on hD hf
    cases hbe : M.begins with
    | false =>
      have e : M.syncs = (9, M.begun) := by unfold DM.syncs DM.act; rw [if_neg (by rw [hf]; decide), hbe]; rfl
      rw [e]
      have hb := begin_no hD hO hS hbe
      go_enter Tryz.func69, Tryz.ntmps69
      go_wp2_with fail
      refine same_mono hr ?_
      go_wp2_with fail
      refine hb.mono ?_
      rintro e w2 ⟨rfl, r1, r2⟩
      go_wp2
      go_ret
      exact ⟨rfl, r1, r2⟩
    | true =>
      have e : M.syncs = (0, M.begun.sync) := by unfold DM.syncs DM.act; rw [if_neg (by rw [hf]; decide), hbe]; rfl
      rw [e]
      have hb := begin_yes hD hO hS hbe
      have ho := hO.ops
      go_enter Tryz.func69, Tryz.ntmps69
      go_wp2_with fail
      refine same_mono hr ?_
      go_wp2_with fail
      refine hb.mono ?_
      rintro e w2 ⟨rfl, r1, r2⟩
      go_wp2_with fail
      refine (settleM r1 hO.inv.begun (fun k hk => hS k (Nat.le_trans r2.size hk)) (by rw [DM.begun_ops]; omega)).mono ?_
      rintro e w3 ⟨⟨v, rfl⟩, r3, r4⟩
      go_wp2
      go_ret
      exact ⟨rfl, r3, r2.trans r4⟩
theorem dropMF (hD : DiskF w d S φ M) (hI : M.Inv) (hS : ∀ k, w.heap.size ≤ k → S k) {x : ByteArray} (hs : x.size ≤ maxLen) :
    Calls Tryz.prog 87 #[.pointer (some ⟨d, 0, none⟩), .string x] w fun e w' => (∃ v, e = .returned v) ∧ DiskF w' d S φ (M.gone x) ∧ Turn S w w' := by
  have hD0 := hD
  obtain ⟨σ, mb, vb, mn, kv, h, hkv⟩ := hD
  obtain ⟨z1, z2, z3⟩ := hI.sizes
  by_cases hx : x ∈ M.names
  · refine (drop_yes h hS hs hx (z3 x).1 (z3 x).2 ⟨by show (0 : Int) ≤ (tot M.buf : Nat); omega, by show ((tot M.buf : Nat) : Int) ≤ _; omega⟩ ⟨by show (0 : Int) ≤ (M.used : Nat); omega, by show ((M.used : Nat) : Int) ≤ _; omega⟩).mono ?_
    rintro e w2 ⟨hv, ⟨vb', h2⟩, t2⟩
    exact ⟨hv, ⟨σ, mb, vb', mn, kv, drop_lies hI hx h2, hkv⟩, t2⟩
  · rw [DM.gone_none hI hx]
    refine (drop_no h hs hx).mono ?_
    rintro e w2 ⟨hv, hb⟩
    exact ⟨hv, hD0.below hb, Turn.of_below hb (Nat.le_refl _)⟩
theorem dropM (hD : DiskAt w d S M) (hI : M.Inv) (hS : ∀ k, w.heap.size ≤ k → S k) {x : ByteArray} (hs : x.size ≤ maxLen) :
    Calls Tryz.prog 87 #[.pointer (some ⟨d, 0, none⟩), .string x] w fun e w' => (∃ v, e = .returned v) ∧ DiskAt w' d S (M.gone x) ∧ Turn S w w' := by
  obtain ⟨φ, hD⟩ := hD
  exact (dropMF hD hI hS hs).mono fun e w' ⟨h1, h2, h3⟩ => ⟨h1, ⟨φ, h2⟩, h3⟩
theorem crash_at (hD : DiskAt w d S M) (hO : M.Ok) (hS : ∀ k, w.heap.size ≤ k → S k) (k : Int) (hk : -9223372036854775808 ≤ k ∧ k ≤ 9223372036854775807) :
    Calls Tryz.prog 23 #[.pointer (some ⟨d, 0, none⟩), .int .i64 k] w fun e w' => (∃ v, e = .returned v) ∧ DiskAt w' d S (M.crash k) ∧ Turn S w w' := by
  obtain ⟨φ, hD⟩ := hD
  exact (crash_any hD hO.inv hS (Nat.le_of_lt hO.ops) k hk).mono fun e w' ⟨h1, h2, h3⟩ => ⟨h1, ⟨φ, h2⟩, h3⟩
theorem findM_off (hD : DiskAt w d S M) (x : ByteArray) (hf : M.off = true) : Calls Tryz.prog 82 #[.pointer (some ⟨d, 0, none⟩), .string x] w fun e w' => e = .returned (.tuple #[.pointer none, .int .i64 9]) ∧ w' = w := by
  obtain ⟨φ, σ, mb, vb, mn, kv, h, _⟩ := hD
  exact find_off8 h x (by show (!M.off) = false; rw [hf]; rfl)
theorem findM_none (hD : DiskAt w d S M) {x : ByteArray} (hs : x.size ≤ maxLen) (hf : M.off = false) (hx : x ∉ M.names) : Calls Tryz.prog 82 #[.pointer (some ⟨d, 0, none⟩), .string x] w fun e w' => e = .returned (.tuple #[.pointer none, .int .i64 4]) ∧ w' = w := by
  obtain ⟨φ, σ, mb, vb, mn, kv, h, _⟩ := hD
  exact find_none8 h hs (by show (!M.off) = true; rw [hf]; rfl) hx
theorem findM_yes {mn : Nat} {kv : Int} (h : Lies8 w d S φ σ mb vb (M.raw mn kv)) {x : ByteArray} (hs : x.size ≤ maxLen) (hf : M.off = false) (hx : x ∈ M.names) : Calls Tryz.prog 82 #[.pointer (some ⟨d, 0, none⟩), .string x] w fun e w' => e = .returned (.tuple #[.pointer (some ⟨φ x, 0, none⟩), .int .i64 0]) ∧ w' = w :=
  find_yes h hs (by show (!M.off) = true; rw [hf]; rfl) hx
set_option maxRecDepth 10000 in
theorem remove_any (hD : DiskAt w d S M) (hO : M.Ok) (hS : ∀ k, w.heap.size ≤ k → S k) {x : ByteArray} (hs : x.size ≤ maxLen) :
    Calls Tryz.prog 33 #[.pointer (some ⟨d, 0, none⟩), .string x] w fun e w' => e = .returned (.int .i64 ((M.remove x).1 : Nat)) ∧ DiskAt w' d S (M.remove x).2 ∧ Turn S w w' := by
  cases hf : M.off with
  | true =>
    have e : M.remove x = (9, M) := by unfold DM.remove; rw [if_pos hf]
    rw [e]
    have hr := findM_off hD x hf
    go_enter Tryz.func33, Tryz.ntmps33
    go_wp2_with fail
    refine same_mono hr ?_
    go_wp2
    go_ret
    exact ⟨rfl, hD, Turn.refl _ _⟩
  | false =>
    by_cases hx : x ∈ M.names
    · have hr : ∃ p, Calls Tryz.prog 82 #[.pointer (some ⟨d, 0, none⟩), .string x] w fun e w' => e = .returned (.tuple #[.pointer (some p), .int .i64 0]) ∧ w' = w := by
        obtain ⟨φ, σ, mb, vb, mn, kv, h, _⟩ := hD
        exact ⟨_, findM_yes h hs hf hx⟩
      obtain ⟨p, hr⟩ := hr
      cases hbe : M.begins with
      | false =>
        have e : M.remove x = (9, M.begun) := by unfold DM.remove DM.act; rw [if_neg (by rw [hf]; decide), if_neg (by simpa using hx), hbe]; rfl
        rw [e]
        have hb := begin_no hD hO hS hbe
        go_enter Tryz.func33, Tryz.ntmps33
        go_wp2_with fail
        refine same_mono hr ?_
        go_wp2_with fail
        refine hb.mono ?_
        rintro e w2 ⟨rfl, r1, r2⟩
        go_wp2
        go_ret
        exact ⟨rfl, r1, r2⟩
      | true =>
        have e : M.remove x = (0, M.begun.gone x) := by unfold DM.remove DM.act; rw [if_neg (by rw [hf]; decide), if_neg (by simpa using hx), hbe]; rfl
        rw [e]
        have hb := begin_yes hD hO hS hbe
        go_enter Tryz.func33, Tryz.ntmps33
        go_wp2_with fail
        refine same_mono hr ?_
        go_wp2_with fail
        refine hb.mono ?_
        rintro e w2 ⟨rfl, r1, r2⟩
        go_wp2_with fail
        refine (dropM r1 hO.inv.begun (fun k hk => hS k (Nat.le_trans r2.size hk)) hs).mono ?_
        rintro e w3 ⟨⟨v, rfl⟩, r3, r4⟩
        go_wp2
        go_ret
        exact ⟨rfl, r3, r2.trans r4⟩
    · have e : M.remove x = (4, M) := by unfold DM.remove; rw [if_neg (by rw [hf]; decide), if_pos hx]
      rw [e]
      have hr := findM_none hD hs hf hx
      go_enter Tryz.func33, Tryz.ntmps33
      go_wp2_with fail
      refine same_mono hr ?_
      go_wp2
      go_ret
      exact ⟨rfl, hD, Turn.refl _ _⟩
end
section
variable {w w' w'' : World} {d : Nat} {S : Nat → Prop} {φ : ByteArray → Nat} {σ : ByteArray → Value} {mb : Nat} {vb : Value} {R : RD} {M : DM}
theorem Lies8.putM (h : Lies8 w d S φ σ mb vb R) {x : ByteArray} (hx : x ∉ R.names) {fk : Nat} (hf : w.heap[fk]? = some (.cells #[.slice none 0 0, .int .i64 0] 122 (0, 0))) (hnew : ∀ y ∈ R.names, φ y ≠ fk) (hSf : S fk)
    (hm : MapAt w' mb (x :: R.names) (upd φ x fk) (R.mn + 1)) (hg : w.grownBy w' (some mb)) : Lies8 w' d S (upd φ x fk) (upd σ x (.slice none 0 0)) mb vb { R with names := x :: R.names, bt := upd R.bt x [], su := upd R.su x 0, mn := R.mn + 1 } := by
  obtain ⟨es, cl, hmb⟩ := h.map.block
  have hfl : fk < w.heap.size := (Array.getElem?_eq_some_iff.1 hf).1
  have hfm : fk ≠ mb := fun e => by rw [e, hmb] at hf; cases hf
  have hold : ∀ y ∈ R.names, y ≠ x := fun y hy e => hx (e ▸ hy)
  refine ⟨(hg.block d h.lt fun e => h.dM (Option.some.inj e).symm).trans h.obj, hm, ?_, fun y hy => ?_, fun y hy => ?_, fun y hy z hz hyz => ?_, fun y hy z hz hyz g h1 h2 => ?_, fun v hv => List.mem_cons_of_mem _ (h.mem v hv), h.sD, h.sM, h.sB, fun y hy => ?_, fun y hy g h1 => ?_⟩
  · have : writesV (upd φ x fk) R.wr = writesV φ R.wr := writesV_congr fun v hv => upd_ne (hold _ (h.mem v hv))
    show w'.ownsRow 0 _ 2 vb R.wr.length (writesV (upd φ x fk) R.wr)
    rw [this]
    exact row_same h.buf fun g hgb => hg.block g (h.ltB hgb) fun e => h.mB (by rw [hgb, e])
  · show w'.heap[upd φ x fk y]? = some (.cells #[upd σ x _ y, .int .i64 (upd R.su x 0 y : Nat)] _ _)
    rcases List.mem_cons.1 hy with rfl | hy
    · rw [upd_at, upd_at, upd_at]
      exact (hg.block fk hfl fun e => hfm (Option.some.inj e)).trans hf
    · rw [upd_ne (hold y hy), upd_ne (hold y hy), upd_ne (hold y hy)]
      exact (hg.block _ (h.ltF hy) fun e => h.mF hy (Option.some.inj e)).trans (h.file y hy)
  · show Owns w' 0 _ (upd σ x _ y) (upd R.bt x [] y)
    rcases List.mem_cons.1 hy with rfl | hy
    · rw [upd_at, upd_at]
      exact Owns.nil _ _ _
    · rw [upd_ne (hold y hy), upd_ne (hold y hy)]
      exact row_same (h.row y hy) fun g hgb => hg.block g (h.ltR hy hgb) fun e => h.mR hy (by rw [hgb, e])
  · rcases List.mem_cons.1 hy with e | hy'
    · rcases List.mem_cons.1 hz with e2 | hz'
      · exact absurd (e.trans e2.symm) hyz
      · rw [e, upd_at, upd_ne (hold z hz')]; exact (hnew z hz').symm
    · rcases List.mem_cons.1 hz with e2 | hz'
      · rw [e2, upd_at, upd_ne (hold y hy')]; exact hnew y hy'
      · rw [upd_ne (hold y hy'), upd_ne (hold z hz')]; exact h.inj y hy' z hz' hyz
  · rcases List.mem_cons.1 hy with e | hy'
    · rw [e, upd_at] at h1; cases h1
    · rw [upd_ne (hold y hy')] at h1
      rcases List.mem_cons.1 hz with e2 | hz'
      · rw [e2, upd_at] at h2; cases h2
      · rw [upd_ne (hold z hz')] at h2
        exact h.apart y hy' z hz' hyz g h1 h2
  · rcases List.mem_cons.1 hy with rfl | hy
    · rw [upd_at]; exact hSf
    · rw [upd_ne (hold y hy)]; exact h.sF y hy
  · rcases List.mem_cons.1 hy with rfl | hy
    · rw [upd_at] at h1; cases h1
    · rw [upd_ne (hold y hy)] at h1; exact h.sR y hy g h1
def renW (l : List (ByteArray × Nat)) (a b : ByteArray) : List (ByteArray × Nat) := l.map fun v => if v.1 = a then (b, v.2) else v
theorem renW_length (l : List (ByteArray × Nat)) (a b : ByteArray) : (renW l a b).length = l.length := List.length_map _
theorem writesV_ren {φ : ByteArray → Nat} {a b : ByteArray} : ∀ {l : List (ByteArray × Nat)}, (∀ v ∈ l, v.1 ≠ b) → writesV (upd φ b (φ a)) (renW l a b) = writesV φ l
  | [], _ => rfl
  | v :: l, h => by
    have ih := writesV_ren (φ := φ) (a := a) (l := l) fun u hu => h u (List.mem_cons_of_mem _ hu)
    show writesV _ ((if v.1 = a then (b, v.2) else v) :: renW l a b) = _
    rw [writesV_cons, ih, writesV_cons]
    by_cases e : v.1 = a
    · rw [if_pos e, upd_at, e]
    · rw [if_neg e, upd_ne (h v List.mem_cons_self)]
theorem Lies8.renM (h : Lies8 w d S φ σ mb vb R) {a b : ByteArray} (ha : a ∈ R.names) (hb : b ∉ R.names) (hm : MapAt w' mb (b :: without R.names a) (upd φ b (φ a)) (R.mn + 1)) (hg : w.grownBy w' (some mb)) :
    Lies8 w' d S (upd φ b (φ a)) (upd σ b (σ a)) mb vb { R with names := b :: without R.names a, bt := upd R.bt b (R.bt a), su := upd R.su b (R.su a), wr := renW R.wr a b, mn := R.mn + 1 } := by
  have hne : ∀ y ∈ R.names, y ≠ b := fun y hy e => hb (e ▸ hy)
  have hab : a ≠ b := hne a ha
  have key : ∀ y, y ∈ b :: without R.names a → ∃ z ∈ R.names, upd φ b (φ a) y = φ z ∧ upd σ b (σ a) y = σ z ∧ upd R.bt b (R.bt a) y = R.bt z ∧ upd R.su b (R.su a) y = R.su z ∧ (y = b ∧ z = a ∨ y = z ∧ y ≠ b ∧ y ≠ a) := by
    intro y hy
    rcases List.mem_cons.1 hy with rfl | hy
    · exact ⟨a, ha, upd_at .., upd_at .., upd_at .., upd_at .., .inl ⟨rfl, rfl⟩⟩
    · obtain ⟨h1, h2⟩ := (mem_without _ _ _).1 hy
      exact ⟨y, h1, upd_ne (hne y h1), upd_ne (hne y h1), upd_ne (hne y h1), upd_ne (hne y h1), .inr ⟨rfl, hne y h1, h2⟩⟩
  have dist : ∀ y z u v, (y = b ∧ u = a ∨ y = u ∧ y ≠ b ∧ y ≠ a) → (z = b ∧ v = a ∨ z = v ∧ z ≠ b ∧ z ≠ a) → y ≠ z → u ≠ v := by
    rintro y z u v (⟨rfl, rfl⟩ | ⟨rfl, h1, h2⟩) (⟨rfl, rfl⟩ | ⟨rfl, h3, h4⟩) hyz
    · exact absurd rfl hyz
    · exact Ne.symm h4
    · exact h2
    · exact hyz
  refine ⟨(hg.block d h.lt fun e => h.dM (Option.some.inj e).symm).trans h.obj, hm, ?_, fun y hy => ?_, fun y hy => ?_, fun y hy z hz hyz => ?_, fun y hy z hz hyz g h1 h2 => ?_, fun v hv => ?_, h.sD, h.sM, h.sB, fun y hy => ?_, fun y hy g h1 => ?_⟩
  · show w'.ownsRow 0 _ 2 vb (renW R.wr a b).length (writesV (upd φ b (φ a)) (renW R.wr a b))
    rw [writesV_ren fun v hv => hne _ (h.mem v hv), renW_length]
    exact row_same h.buf fun g hgb => hg.block g (h.ltB hgb) fun e => h.mB (by rw [hgb, e])
  · obtain ⟨z, hz, e1, e2, _, e4, _⟩ := key y hy
    show w'.heap[upd φ b (φ a) y]? = some (.cells #[upd σ b (σ a) y, .int .i64 (upd R.su b (R.su a) y : Nat)] _ _)
    rw [e1, e2, e4]
    exact (hg.block _ (h.ltF hz) fun e => h.mF hz (Option.some.inj e)).trans (h.file z hz)
  · obtain ⟨z, hz, _, e2, e3, _, _⟩ := key y hy
    show Owns w' 0 _ (upd σ b (σ a) y) (upd R.bt b (R.bt a) y)
    rw [e2, e3]
    exact row_same (h.row z hz) fun g hgb => hg.block g (h.ltR hz hgb) fun e => h.mR hz (by rw [hgb, e])
  · obtain ⟨u, hu, e1, _, _, _, k1⟩ := key y hy
    obtain ⟨v, hv, f1, _, _, _, k2⟩ := key z hz
    rw [e1, f1]
    exact h.inj u hu v hv (dist _ _ _ _ k1 k2 hyz)
  · obtain ⟨u, hu, _, e2, _, _, k1⟩ := key y hy
    obtain ⟨v, hv, _, f2, _, _, k2⟩ := key z hz
    rw [e2] at h1
    rw [f2] at h2
    exact h.apart u hu v hv (dist _ _ _ _ k1 k2 hyz) g h1 h2
  · obtain ⟨u, hu, rfl⟩ := List.mem_map.1 hv
    by_cases e : u.1 = a
    · rw [if_pos e]; exact List.mem_cons_self
    · rw [if_neg e]; exact List.mem_cons_of_mem _ ((mem_without _ _ _).2 ⟨h.mem u hu, e⟩)
  · obtain ⟨u, hu, e1, _⟩ := key y hy
    rw [e1]; exact h.sF u hu
  · obtain ⟨u, hu, _, e2, _⟩ := key y hy
    rw [e2] at h1; exact h.sR u hu g h1
end
section
variable {w w' w'' : World} {d : Nat} {S : Nat → Prop} {φ : ByteArray → Nat} {σ : ByteArray → Value} {mb : Nat} {vb : Value} {R : RD} {M : DM}
theorem Lies8.norm (h : Lies8 w d S φ σ mb vb R) (hnd : R.names.Nodup) (hsz : ∀ x ∈ R.names, x.size ≤ maxLen) : Lies8 w d S φ σ mb vb { R with mn := R.names.length } :=
  ⟨h.obj, h.map.norm hnd hsz, h.buf, h.file, h.row, h.inj, h.apart, h.mem, h.sD, h.sM, h.sB, h.sF, h.sR⟩
theorem DM.Inv.short (hI : M.Inv) : ∀ x ∈ M.names, x.size ≤ maxLen := fun x hx => by have := good_size (hI.good x hx); unfold maxLen; omega
theorem DiskAt.open8 (hD : DiskAt w d S M) (hI : M.Inv) : ∃ φ σ mb vb kv, Lies8 w d S φ σ mb vb (M.raw M.names.length kv) ∧ (M.n ≠ 0 → kv = M.keep) ∧ M.names.length ≤ 16777216 := by
  obtain ⟨φ, σ, mb, vb, mn, kv, h, hkv⟩ := hD
  refine ⟨φ, σ, mb, vb, kv, h.norm hI.nodup hI.short, hkv, ?_⟩
  have := hI.count
  show (nms M.L).length ≤ _
  unfold nms
  rw [List.length_map]
  exact this
theorem bytes_put (hI : M.Inv) {x : ByteArray} (hx : x ∉ M.names) (y : ByteArray) : (M.put x []).bytes y = upd M.bytes x [] y ∧ lk (M.put x []).L y = upd (lk M.L) x [] y := by
  have h1 : lk (insF x [] M.L) y = if y = x then [] else lk M.L y := lk_ins hx
  have hp : pend M.buf x = [] := pend_none fun w hw (e : w.1 = x) => hx (by rw [← e]; exact hI.mem w hw)
  refine ⟨?_, h1⟩
  show lk (insF x [] M.L) y ++ pend M.buf y = if y = x then [] else lk M.L y ++ pend M.buf y
  rw [h1]
  by_cases e : y = x
  · rw [if_pos e, if_pos e, e, hp]; rfl
  · rw [if_neg e, if_neg e]
theorem put_lies {kv : Int} {vb : Value} (hI : M.Inv) {x : ByteArray} (hx : x ∉ M.names) {mn mn' : Nat} (h : Lies8 w d S φ σ mb vb { M.raw mn kv with names := x :: M.names, bt := upd M.bytes x [], su := upd (fun y => (lk M.L y).length) x 0, mn := mn', used := (M.used : Nat) + 1 }) : Lies8 w d S φ σ mb vb ((M.put x []).raw mn' kv) := by
  refine h.congr (fun y => ?_) (fun y _ => (bytes_put hI hx y).1) (fun y _ => ?_) rfl rfl rfl rfl ?_ rfl rfl rfl rfl
  · exact (DM.names_put M x y []).trans List.mem_cons.symm
  · show (lk (M.put x []).L y).length = upd (fun y => (lk M.L y).length) x 0 y
    rw [(bytes_put hI hx y).2]
    by_cases e : y = x
    · rw [e, upd_at, upd_at]; rfl
    · rw [upd_ne e, upd_ne e]
  · show (((M.put x []).used : Nat) : Int) = (M.used : Nat) + 1
    rw [DM.used_put M hI hx]
    omega
theorem blocks_new (k : Nat) (w : World) (h : w.cell? ⟨k, 0, none⟩ = some (.slice none 0 0)) : Calls Tryz.prog 88 #[.pointer (some ⟨k, 0, none⟩)] w fun e w' => e = .returned (.int .i64 1) ∧ w' = w :=
  blocks_any k none 0 0 w h (by decide)
set_option maxRecDepth 10000 in
set_option maxHeartbeats 2000000 in
theorem create_any (hD : DiskAt w d S M) (hO : M.Ok) (hS : ∀ k, w.heap.size ≤ k → S k) {x : ByteArray} (hs : x.size ≤ maxLen) :
    Calls Tryz.prog 29 #[.pointer (some ⟨d, 0, none⟩), .string x] w fun e w' => e = .returned (.int .i64 ((M.create x).1 : Nat)) ∧ DiskAt w' d S (M.create x).2 ∧ Turn S w w' := by
  cases hf : M.off with
  | true =>
    have e : M.create x = (9, M) := by unfold DM.create; rw [if_pos hf]
    rw [e]
    have hr := ready_off hD hf
    go_enter Tryz.func29, Tryz.ntmps29
    go_wp2_with fail
    refine same_mono hr ?_
    go_wp2
    go_ret
    exact ⟨rfl, hD, Turn.refl _ _⟩
  | false =>
    have hr := ready_on hD hf
    have hgd := good_dk x hs
    cases hg : goodN x with
    | false =>
      have e : M.create x = (3, M) := by unfold DM.create; rw [if_neg (by rw [hf]; decide), if_pos hg]
      rw [e]
      rw [hg] at hgd
      go_enter Tryz.func29, Tryz.ntmps29
      go_wp2_with fail
      refine same_mono hr ?_
      go_wp2_with fail
      refine same_mono (hgd _) ?_
      go_wp2
      go_ret
      exact ⟨rfl, hD, Turn.refl _ _⟩
    | true =>
      rw [hg] at hgd
      cases hbe : M.begins with
      | false =>
        have e : M.create x = (9, M.begun) := by unfold DM.create DM.act; rw [if_neg (by rw [hf]; decide), if_neg (by rw [hg]; decide), hbe]; rfl
        rw [e]
        have hb := begin_no hD hO hS hbe
        go_enter Tryz.func29, Tryz.ntmps29
        go_wp2_with fail
        refine same_mono hr ?_
        go_wp2_with fail
        refine same_mono (hgd _) ?_
        go_wp2_with fail
        refine hb.mono ?_
        rintro e w2 ⟨rfl, r1, r2⟩
        go_wp2
        go_ret
        exact ⟨rfl, r1, r2⟩
      | true =>
        have e : M.create x = M.begun.create1 x := by unfold DM.create DM.act; rw [if_neg (by rw [hf]; decide), if_neg (by rw [hg]; decide), hbe]; rfl
        rw [e]
        have hb := begin_yes hD hO hS hbe
        have hI1 := hO.inv.begun
        generalize M.begun = M1 at *
        clear e hO hD hf hbe
        go_enter Tryz.func29, Tryz.ntmps29
        go_wp2_with fail
        refine same_mono hr ?_
        go_wp2_with fail
        refine same_mono (hgd _) ?_
        go_wp2_with fail
        refine hb.mono ?_
        rintro e w2 ⟨rfl, r1, r2⟩
        clear hr hgd hb
        obtain ⟨φ, σ, mb, vb, kv, h2, hkv, -⟩ := r1.open8 hI1
        obtain ⟨c0, -, -, g3, g4, -⟩ := h2.cells
        have c3 : w2.cell? ⟨d, 3, none⟩ = some (.int .i64 (M1.blocks : Nat)) := g3
        have c4 : w2.cell? ⟨d, 4, none⟩ = some (.int .i64 (M1.used : Nat)) := g4
        clear g3 g4
        by_cases hx : x ∈ M1.names
        · have hl : ∀ n, (Instr.lookup 102 (.map (some mb)) (.string x) false).run Tryz.prog (w2.drewN n) = .ok (.pointer (some ⟨φ x, 0, none⟩)) (w2.drewN n) := fun n => (h2.drewN n).map.look_yes hs hx
          have Hc : Hid (M1.create1 x = (0, (M1.gone x).put x [])) := by show _ = _; unfold DM.create1; rw [if_pos hx]
          clear h2
          go_wp2_with fail
          refine wp_region_quiet_lit (by kernel_rfl) (by kernel_rfl) ?_
          repeat (go_big_quiet_step (fail))
          refine wpQuiet_nil ?_
          rintro _ ⟨nq, rfl⟩
          go_wp2_with fail
          refine (dropM ((r1.same (w' := w2.drewN nq) fun _ _ _ => rfl)) hI1 (fun k hk => hS k (Nat.le_trans r2.size hk)) hs).mono ?_
          rintro e w3 ⟨⟨v, rfl⟩, r3, r4⟩
          have t3 : Turn S w w3 := (r2.drewN nq).trans r4
          obtain ⟨φ3, σ3, mb3, vb3, kv3, h3, hkv3, hcnt⟩ := r3.open8 (hI1.gone x)
          clear r1 r2 r3 r4 c0 c3 c4 hl
          have hxg : x ∉ (M1.gone x).names := fun hm => ((DM.names_gone M1 x x).1 hm).2 rfl
          have hIg := hI1.gone x
          generalize M1.gone x = M2 at *
          have hba : Below w3.heap.size w3 (w3.alloc (.cells #[.slice none 0 0, .int .i64 0] 122)) := (Below.refl _ _).alloc (Nat.le_refl _) _
          have hA := heap_alloc_new w3 (.cells #[.slice none 0 0, .int .i64 0] 122)
          have hza : (w3.alloc (.cells #[.slice none 0 0, .int .i64 0] 122)).heap.size = w3.heap.size + 1 := by simp
          have h4 := h3.below hba
          have t4 : Turn S w (w3.alloc (.cells #[.slice none 0 0, .int .i64 0] 122)) := t3.alloc _
          have hnew : ∀ y ∈ M2.names, φ3 y ≠ w3.heap.size := fun y hy => Nat.ne_of_lt (h3.ltF hy)
          have hSf : S w3.heap.size := hS _ t3.size
          have hdl := h3.lt
          obtain ⟨m0, -⟩ := h3.cells
          obtain ⟨w5, hrun, hm5, hg5⟩ := h4.map.store (by show M2.names.length < maxLen; unfold maxLen; omega) hs w3.heap.size
          have h5 := h4.putM hxg hA hnew hSf hm5 hg5
          have t5 := t4.grown hg5 fun k hk => .inl (by cases hk; exact h3.sM)
          clear h4 hm5 hg5
          go_wp2_with fail
          generalize w3.alloc (.cells #[.slice none 0 0, .int .i64 0] 122) = wa at *
          generalize w3.heap.size = fk at *
          clear h3
          obtain ⟨-, -, -, -, c4, -, -, -, -, cf⟩ := h5.cells
          have c4' : w5.cell? ⟨d, 4, none⟩ = some (.int .i64 (M2.used : Nat)) := c4
          have k0 := (h5.fcells (x := x) List.mem_cons_self).1
          rw [upd_at, upd_at] at k0
          obtain ⟨z1, -, -⟩ := hIg.sizes
          obtain ⟨u, Hu⟩ : ∃ u, Hid (M2.used = u) := ⟨_, rfl⟩
          rw [Hu.out] at z1 c4'
          clear c4
          refine wp_last (by kernel_rfl) (by kernel_rfl) ?_
          dsimp only [initL, lastL]
          repeat (go_big_quiet_step ((go_at_call 88; exact Calls.quiet_of_same (blocks_new fk _ k0))))
          refine wpQuiet_nil ?_
          rintro _ ⟨nr, rfl⟩
          gi_wp2
          have h6 := (h5.drewN nr).setD 4 (.int .i64 ((u : Nat) + 1)) { M2.raw M2.names.length kv3 with names := x :: M2.names, bt := upd M2.bytes x [], su := upd (fun y => (lk M2.L y).length) x 0, mn := M2.names.length + 1, used := (u : Nat) + 1 } rfl rfl rfl rfl rfl rfl
          have t6 := (t5.drewN nr).setCell (p := ⟨d, 4, none⟩) (.inl h5.sD) (.int .i64 ((u : Nat) + 1))
          rw [← Hu.out] at h6
          have h7 := put_lies hIg hxg h6
          rw [Hu.out] at h7
          generalize (w5.drewN nr).setCell ⟨d, 4, none⟩ (.int .i64 ((u : Nat) + 1)) = w6 at *
          clear h5 h6 t5 c4' k0
          go_wp2
          go_ret
          refine ⟨by rw [Hc.out]; rfl, ?_, t6⟩
          rw [Hc.out]
          exact ⟨_, _, _, _, _, _, h7, hkv3⟩
        · have hl : ∀ n, (Instr.lookup 102 (.map (some mb)) (.string x) false).run Tryz.prog (w2.drewN n) = .ok (.pointer none) (w2.drewN n) := fun n => (h2.drewN n).map.look_no hs hx
          have hfit := hI1.fits
          by_cases hu : M1.blocks ≤ M1.used
          · have Hc : Hid (M1.create1 x = (7, M1)) := by show _ = _; unfold DM.create1; rw [if_neg hx, if_pos hu]
            have hub : ((M1.used : Int) == (M1.blocks : Int)) = true := by rw [beq_iff_eq]; omega
            go_wp2_with fail
            refine wp_region_quiet_lit (by kernel_rfl) (by kernel_rfl) ?_
            repeat (go_big_quiet_step (fail))
            refine wpQuiet_nil ?_
            rintro _ ⟨nq, rfl⟩
            go_wp2
            go_ret
            exact ⟨by rw [Hc.out]; rfl, by rw [Hc.out]; exact r1.same fun _ _ _ => rfl, r2.drewN nq⟩
          · have Hc : Hid (M1.create1 x = (0, (M1.gone x).put x [])) := by show _ = _; rw [DM.gone_none hI1 hx]; unfold DM.create1; rw [if_neg hx, if_neg hu]
            have hub : ((M1.used : Int) == (M1.blocks : Int)) = false := by rw [beq_eq_false_iff_ne]; omega
            clear h2
            go_wp2_with fail
            refine wp_region_quiet_lit (by kernel_rfl) (by kernel_rfl) ?_
            repeat (go_big_quiet_step (fail))
            refine wpQuiet_nil ?_
            rintro _ ⟨nq, rfl⟩
            go_wp2_with fail
            refine (dropM ((r1.same (w' := w2.drewN nq) fun _ _ _ => rfl)) hI1 (fun k hk => hS k (Nat.le_trans r2.size hk)) hs).mono ?_
            rintro e w3 ⟨⟨v, rfl⟩, r3, r4⟩
            have t3 : Turn S w w3 := (r2.drewN nq).trans r4
            obtain ⟨φ3, σ3, mb3, vb3, kv3, h3, hkv3, hcnt⟩ := r3.open8 (hI1.gone x)
            clear r1 r2 r3 r4 c0 c3 c4 hl
            have hxg : x ∉ (M1.gone x).names := fun hm => ((DM.names_gone M1 x x).1 hm).2 rfl
            have hIg := hI1.gone x
            generalize M1.gone x = M2 at *
            have hba : Below w3.heap.size w3 (w3.alloc (.cells #[.slice none 0 0, .int .i64 0] 122)) := (Below.refl _ _).alloc (Nat.le_refl _) _
            have hA := heap_alloc_new w3 (.cells #[.slice none 0 0, .int .i64 0] 122)
            have hza : (w3.alloc (.cells #[.slice none 0 0, .int .i64 0] 122)).heap.size = w3.heap.size + 1 := by simp
            have h4 := h3.below hba
            have t4 : Turn S w (w3.alloc (.cells #[.slice none 0 0, .int .i64 0] 122)) := t3.alloc _
            have hnew : ∀ y ∈ M2.names, φ3 y ≠ w3.heap.size := fun y hy => Nat.ne_of_lt (h3.ltF hy)
            have hSf : S w3.heap.size := hS _ t3.size
            have hdl := h3.lt
            obtain ⟨m0, -⟩ := h3.cells
            obtain ⟨w5, hrun, hm5, hg5⟩ := h4.map.store (by show M2.names.length < maxLen; unfold maxLen; omega) hs w3.heap.size
            have h5 := h4.putM hxg hA hnew hSf hm5 hg5
            have t5 := t4.grown hg5 fun k hk => .inl (by cases hk; exact h3.sM)
            clear h4 hm5 hg5
            go_wp2_with fail
            generalize w3.alloc (.cells #[.slice none 0 0, .int .i64 0] 122) = wa at *
            generalize w3.heap.size = fk at *
            clear h3
            obtain ⟨-, -, -, -, c4, -, -, -, -, cf⟩ := h5.cells
            have c4' : w5.cell? ⟨d, 4, none⟩ = some (.int .i64 (M2.used : Nat)) := c4
            have k0 := (h5.fcells (x := x) List.mem_cons_self).1
            rw [upd_at, upd_at] at k0
            obtain ⟨z1, -, -⟩ := hIg.sizes
            obtain ⟨u, Hu⟩ : ∃ u, Hid (M2.used = u) := ⟨_, rfl⟩
            rw [Hu.out] at z1 c4'
            clear c4
            refine wp_last (by kernel_rfl) (by kernel_rfl) ?_
            dsimp only [initL, lastL]
            repeat (go_big_quiet_step ((go_at_call 88; exact Calls.quiet_of_same (blocks_new fk _ k0))))
            refine wpQuiet_nil ?_
            rintro _ ⟨nr, rfl⟩
            gi_wp2
            have h6 := (h5.drewN nr).setD 4 (.int .i64 ((u : Nat) + 1)) { M2.raw M2.names.length kv3 with names := x :: M2.names, bt := upd M2.bytes x [], su := upd (fun y => (lk M2.L y).length) x 0, mn := M2.names.length + 1, used := (u : Nat) + 1 } rfl rfl rfl rfl rfl rfl
            have t6 := (t5.drewN nr).setCell (p := ⟨d, 4, none⟩) (.inl h5.sD) (.int .i64 ((u : Nat) + 1))
            rw [← Hu.out] at h6
            have h7 := put_lies hIg hxg h6
            rw [Hu.out] at h7
            generalize (w5.drewN nr).setCell ⟨d, 4, none⟩ (.int .i64 ((u : Nat) + 1)) = w6 at *
            clear h5 h6 t5 c4' k0
            go_wp2
            go_ret
            refine ⟨by rw [Hc.out]; rfl, ?_, t6⟩
            rw [Hc.out]
            exact ⟨_, _, _, _, _, _, h7, hkv3⟩
end
end Go.Proofs.YthlelcmifolnfaaGreatDoor
