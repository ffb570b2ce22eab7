import Derived.Test.YtefgnehahedckaaDkHTo
import Derived.Deep.RegionWith
/-
  Contracts: the closures of Sync and Crash, which say how much of a write becomes sure; what settle makes of the files, in plain mathematics.
-/
namespace Go.Proofs.Ytefgnehahedckaa
open Go.RowKit Go.Maps

theorem sync1_any (j s : Nat) (w : World) : Calls Try.prog 56 #[.agg #[.pointer (some ⟨j, 0, none⟩), .int .i64 (s : Nat)]] w fun e w' => e = .returned (.int .i64 (s : Nat)) ∧ Below w.heap.size w w' := by
  go_enter Try.func56, Try.ntmps56
  go_wp2
  go_ret
  exact ⟨rfl, (Below.refl _ _).alloc (Nat.le_refl _) _⟩
theorem crash1_any (j s n zb : Nat) (w : World) (hz : w.heap[zb]? = some (.cells #[.int .i64 (n : Nat)] 3 (0, 0))) (hn : (n : Int) ≤ 9223372036854775807) (hs : (s : Int) ≤ 9223372036854775807) :
    Calls Try.prog 60 #[.agg #[.pointer (some ⟨j, 0, none⟩), .int .i64 (s : Nat)], .pointer (some ⟨zb, 0, none⟩)] w fun e w' => e = .returned (.int .i64 (min s n : Nat)) ∧ w'.heap[zb]? = some (.cells #[.int .i64 (n - s : Nat)] 3 (0, 0)) ∧ Turn (fun k => k = zb) w w' := by
  have hzl : zb < w.heap.size := (Array.getElem?_eq_some_iff.1 hz).1
  have c0 := cell_of hz (i := 0) (v := .int .i64 (n : Nat)) rfl
  have f0 := froz_of hz (i := 0)
  by_cases hle : s ≤ n
  · have e1 : min s n = s := Nat.min_eq_left hle
    have hle' : (s : Int) ≤ n := by omega
    rw [e1]
    go_enter Try.func60, Try.ntmps60
    go_wp2
    go_ret
    refine ⟨rfl, ?_, ((Turn.refl (fun k => k = zb) w).setCell (p := ⟨zb, 0, none⟩) (.inl rfl) _).alloc _⟩
    refine (Below.heap_alloc _ _ _ (by simp [World.setCell]; exact hzl)).trans ((heap_set_same hz).trans ?_)
    simp
    omega
  · have e1 : min s n = n := Nat.min_eq_right (by omega)
    have hle' : (n : Int) < s := by omega
    rw [e1]
    go_enter Try.func60, Try.ntmps60
    go_wp2
    go_ret
    refine ⟨rfl, ?_, ((Turn.refl (fun k => k = zb) w).setCell (p := ⟨zb, 0, none⟩) (.inl rfl) _).alloc _⟩
    refine (Below.heap_alloc _ _ _ (by simp [World.setCell]; exact hzl)).trans ((heap_set_same hz).trans ?_)
    simp
    omega

def totW : List (ByteArray × Nat) → Nat
  | [] => 0
  | v :: r => v.2 + totW r
/-- How much is sure of each file, once the first n bytes of these writes are. -/
def sureL : Nat → List (ByteArray × Nat) → (ByteArray → Nat) → ByteArray → Nat
  | _, [], su => su
  | n, v :: r, su => sureL (n - v.2) r (upd su v.1 (su v.1 + min v.2 n))
theorem sureL_le : ∀ (l : List (ByteArray × Nat)) (n : Nat) (su : ByteArray → Nat) (x : ByteArray), sureL n l su x ≤ su x + totW l
  | [], _, _, _ => Nat.le_refl _
  | v :: r, n, su, x => by
    have := sureL_le r (n - v.2) (upd su v.1 (su v.1 + min v.2 n)) x
    rw [sureL, totW]
    by_cases hx : x = v.1
    · subst hx
      rw [upd_at] at this
      omega
    · rw [upd_ne hx] at this
      omega
/-- The files that were written are cut. -/
def cuts (R : RD) (l : List (ByteArray × Nat)) : RD := l.foldl (fun R v => R.cut v.1) R
theorem cuts_snoc (R : RD) (l : List (ByteArray × Nat)) (v : ByteArray × Nat) : cuts R (l ++ [v]) = (cuts R l).cut v.1 := by unfold cuts; rw [List.foldl_append]; rfl
theorem cuts_keeps : ∀ (l : List (ByteArray × Nat)) (R : RD), (cuts R l).names = R.names ∧ (cuts R l).su = R.su ∧ (cuts R l).wr = R.wr ∧ (cuts R l).mn = R.mn ∧ (cuts R l).pending = R.pending ∧ (cuts R l).blocks = R.blocks ∧ (cuts R l).on = R.on ∧ (cuts R l).ops = R.ops ∧ (cuts R l).armed = R.armed ∧ (cuts R l).keep = R.keep
  | [], _ => ⟨rfl, rfl, rfl, rfl, rfl, rfl, rfl, rfl, rfl, rfl⟩
  | v :: l, R => cuts_keeps l (R.cut v.1)
theorem cuts_bt : ∀ (l : List (ByteArray × Nat)) (R : RD) (x : ByteArray), (cuts R l).bt x = if x ∈ l.map Prod.fst then (R.bt x).take (R.su x) else R.bt x
  | [], _, _ => by simp [cuts]
  | v :: l, R, x => by
    show (cuts (R.cut v.1) l).bt x = _
    rw [cuts_bt l (R.cut v.1) x]
    show (if x ∈ l.map Prod.fst then (upd R.bt v.1 _ x).take (R.su x) else upd R.bt v.1 _ x) = _
    by_cases hx : x = v.1
    · subst hx
      rw [upd_at, List.take_take, Nat.min_self]
      simp
    · rw [upd_ne hx]
      have : (x ∈ (v :: l).map Prod.fst) ↔ x ∈ l.map Prod.fst := by rw [List.map_cons, List.mem_cons]; exact ⟨fun h => h.resolve_left hx, .inr⟩
      by_cases hm : x ∈ l.map Prod.fst
      · rw [if_pos hm, if_pos (this.2 hm)]
      · rw [if_neg hm, if_neg fun h => hm (this.1 h)]
/-- The sum over names. -/
def sumN (f : ByteArray → Nat) : List ByteArray → Nat
  | [] => 0
  | x :: r => f x + sumN f r
theorem sumN_congr {f g : ByteArray → Nat} : ∀ {l : List ByteArray}, (∀ x ∈ l, f x = g x) → sumN f l = sumN g l
  | [], _ => rfl
  | x :: l, h => by rw [sumN, sumN, h x List.mem_cons_self, sumN_congr fun y hy => h y (List.mem_cons_of_mem _ hy)]
theorem sumN_upd {f : ByteArray → Nat} {x : ByteArray} {k : Nat} : ∀ {l : List ByteArray}, l.Nodup → x ∈ l → sumN (upd f x k) l + f x = sumN f l + k
  | [], _, h => by cases h
  | y :: l, hn, h => by
    obtain ⟨h1, h2⟩ := List.nodup_cons.1 hn
    rw [sumN, sumN]
    by_cases hy : y = x
    · subst hy
      rw [upd_at, sumN_congr (f := upd f y k) (g := f) fun z hz => upd_ne fun e => h1 (e ▸ hz)]
      omega
    · have := sumN_upd (f := f) (x := x) (k := k) h2 ((List.mem_cons.1 h).resolve_left (Ne.symm hy))
      rw [upd_ne hy]
      omega
/-- The blocks are counted right all the while. -/
theorem cut_used (R : RD) (hn : R.names.Nodup) {x : ByteArray} (hx : x ∈ R.names) (hs : R.su x ≤ (R.bt x).length) (hu : R.used = (sumN (fun x => need (R.bt x).length) R.names : Nat)) : (R.cut x).used = (sumN (fun y => need ((R.cut x).bt y).length) R.names : Nat) := by
  have e : ∀ y ∈ R.names, need ((R.cut x).bt y).length = upd (fun y => need (R.bt y).length) x (need (R.su x)) y := by
    intro y _
    show need (upd R.bt x _ y).length = _
    by_cases hy : y = x
    · subst hy
      rw [upd_at, upd_at, List.length_take, Nat.min_eq_left hs]
    · rw [upd_ne hy, upd_ne hy]
  have h1 := sumN_upd (f := fun y => need (R.bt y).length) (k := need (R.su x)) hn hx
  rw [sumN_congr e]
  show R.used - ((need (R.bt x).length : Nat) - (need (R.su x) : Nat) : Int) = _
  rw [hu]
  omega
theorem cuts_used : ∀ (l : List (ByteArray × Nat)) (R : RD), R.names.Nodup → (∀ v ∈ l, v.1 ∈ R.names) → (∀ x ∈ R.names, R.su x ≤ (R.bt x).length) → R.used = (sumN (fun x => need (R.bt x).length) R.names : Nat) →
    (cuts R l).used = (sumN (fun x => need ((cuts R l).bt x).length) R.names : Nat) ∧ ∀ x ∈ R.names, R.su x ≤ ((cuts R l).bt x).length
  | [], _, _, _, hs, hu => ⟨hu, hs⟩
  | v :: l, R, hn, hm, hs, hu => by
    have hv := hm v List.mem_cons_self
    refine cuts_used l (R.cut v.1) hn (fun u hu => hm u (List.mem_cons_of_mem _ hu)) (fun x hx => ?_) (cut_used R hn hv (hs _ hv) hu)
    show R.su x ≤ (upd R.bt v.1 _ x).length
    by_cases hxv : x = v.1
    · subst hxv
      rw [upd_at, List.length_take, Nat.min_eq_left (hs _ hv)]
      exact Nat.le_refl _
    · rw [upd_ne hxv]; exact hs x hx
end Go.Proofs.Ytefgnehahedckaa

/-
  Contract: settle with the closure of Crash: of each write so many of its first bytes become sure as are left, the others are lost.
-/
namespace Go.Proofs.Ytefgnehahedckaa
open Go.RowKit Go.Maps

def RD.settled (R : RD) (n : Nat) : RD := { cuts { R with su := sureL n R.wr R.su } R.wr with wr := [], pending := 0 }
section
variable {w w' : World} {d : Nat} {S : Nat → Prop} {φ : ByteArray → Nat} {σ : ByteArray → Value} {mb : Nat} {vb : Value} {R : RD}
theorem Lies8.write (h : Lies8 w d S φ σ mb vb R) {j : Nat} (hj : j < R.wr.length) : ∃ g cap, vb = .slice (some ⟨g, 0, none⟩) R.wr.length cap ∧ R.wr.length ≤ cap ∧ w.cell? ⟨g, j * 2, none⟩ = some (.pointer (some ⟨φ (R.wr.getD j default).1, 0, none⟩)) ∧ w.cell? ⟨g, j * 2 + 1, none⟩ = some (.int .i64 ((R.wr.getD j default).2 : Nat)) := by
  rcases h.buf.2 with ⟨_, hn⟩ | ⟨g, cap, cur, rfl, hB, hg, hnc, hm, _, _⟩
  · omega
  · have hc := fun i u hi => World.ownsRow.cells h.buf (g := g) rfl i u hi
    have h1 := hc _ _ (writesV_file hj)
    have h2 := hc _ _ (writesV_size hj)
    rw [Addr.add_lit, Nat.zero_add] at h1 h2
    exact ⟨g, cap, rfl, hnc, h1, h2⟩
theorem drop_cons {l : List (ByteArray × Nat)} {j : Nat} (hj : j < l.length) : l.drop j = l.getD j default :: l.drop (j + 1) := by
  rw [List.drop_eq_getElem_cons hj, List.getD_eq_getElem?_getD, List.getElem?_eq_getElem hj]
  rfl
theorem take_snocW {l : List (ByteArray × Nat)} {j : Nat} (hj : j < l.length) : l.take (j + 1) = l.take j ++ [l.getD j default] := by
  rw [List.take_succ_eq_append_getElem hj, List.getD_eq_getElem?_getD, List.getElem?_eq_getElem hj]
  rfl
theorem getD_memW {l : List (ByteArray × Nat)} {j : Nat} (hj : j < l.length) : l.getD j default ∈ l := by
  rw [List.getD_eq_getElem?_getD, List.getElem?_eq_getElem hj]
  exact List.getElem_mem hj

theorem sumN_le {f g : ByteArray → Nat} : ∀ {l : List ByteArray}, (∀ x ∈ l, f x ≤ g x) → sumN f l ≤ sumN g l
  | [], _ => Nat.le_refl _
  | x :: l, h => by
    have h1 := h x List.mem_cons_self
    have h2 := sumN_le (f := f) (g := g) (l := l) fun y hy => h y (List.mem_cons_of_mem _ hy)
    rw [sumN, sumN]
    omega
theorem cuts_len (R : RD) (l : List (ByteArray × Nat)) (x : ByteArray) : ((cuts R l).bt x).length ≤ (R.bt x).length := by
  rw [cuts_bt]
  split
  · rw [List.length_take]; omega
  · exact Nat.le_refl _
/-- What a cut asks, at each write. -/
theorem cuts_ok {R : RD} (hnd : R.names.Nodup) (hm : ∀ v ∈ R.wr, v.1 ∈ R.names) (hs : ∀ x ∈ R.names, R.su x ≤ (R.bt x).length) (hbt : ∀ x ∈ R.names, (R.bt x).length ≤ 1073741824) (hu : R.used = (sumN (fun x => need (R.bt x).length) R.names : Nat)) (hub : R.used ≤ 16777216) (j : Nat) {x : ByteArray} (hx : x ∈ R.names) :
    x ∈ (cuts R (R.wr.take j)).names ∧ ((cuts R (R.wr.take j)).bt x).length ≤ 1073741824 ∧ (cuts R (R.wr.take j)).su x ≤ ((cuts R (R.wr.take j)).bt x).length ∧ -1099511627776 ≤ (cuts R (R.wr.take j)).used ∧ (cuts R (R.wr.take j)).used ≤ 1099511627776 := by
  obtain ⟨k1, k2, _⟩ := cuts_keeps (R.wr.take j) R
  obtain ⟨u1, u2⟩ := cuts_used (R.wr.take j) R hnd (fun v hv => hm v (List.mem_of_mem_take hv)) hs hu
  have h1 := cuts_len R (R.wr.take j) x
  have h2 := hbt x hx
  have h3 := sumN_le (f := fun x => need ((cuts R (R.wr.take j)).bt x).length) (g := fun x => need (R.bt x).length) (l := R.names) fun y _ => need_mono (cuts_len R _ y)
  refine ⟨by rw [k1]; exact hx, by omega, by rw [k2]; exact u2 x hx, by omega, by omega⟩

set_option maxRecDepth 10000 in
set_option maxHeartbeats 4000000 in
theorem settle_c (h : Lies8 w d S φ σ mb vb R) (hS : ∀ k, w.heap.size ≤ k → S k) (n zb : Nat) (hz : w.heap[zb]? = some (.cells #[.int .i64 (n : Nat)] 3 (0, 0))) (hzS : ¬ S zb) (hn64 : (n : Int) ≤ 9223372036854775807) (hwl : (R.wr.length : Int) ≤ 9223372036854775807)
    (hmax : ∀ x ∈ R.names, R.su x + totW R.wr ≤ 1099511627776) (hnd : R.names.Nodup) (hF : ∀ x ∈ R.names, sureL n R.wr R.su x ≤ (R.bt x).length) (hbt : ∀ x ∈ R.names, (R.bt x).length ≤ 1073741824)
    (hu : R.used = (sumN (fun x => need (R.bt x).length) R.names : Nat)) (hub : R.used ≤ 16777216) :
    Calls Try.prog 55 #[.pointer (some ⟨d, 0, none⟩), .func (.func 60) #[] #[.pointer (some ⟨zb, 0, none⟩)]] w fun e w' => (∃ v, e = .returned v) ∧ (∃ σ', Lies8 w' d S φ σ' mb (.slice none 0 0) (R.settled n)) ∧ Turn (fun k => S k ∨ k = zb) w w' := by
  have hzl : zb < w.heap.size := (Array.getElem?_eq_some_iff.1 hz).1
  obtain ⟨-, c1, -⟩ := h.cells
  obtain ⟨pb, cb, rfl⟩ := writes_shape h.buf
  obtain ⟨F, HF⟩ : ∃ F, Hid (sureL n R.wr R.su = F) := ⟨_, rfl⟩
  rw [HF.out] at hF
  obtain ⟨N, HN⟩ : ∃ N, Hid (R.wr.length = N) := ⟨_, rfl⟩
  have hwl' := hwl
  rw [HN.out] at hwl'
  have h0 := h
  rw [HN.out] at h0 c1
  go_enter Try.func55, Try.ntmps55
  go_wp2
  go_loopw [13] (fun i wr => ∃ (j m : Nat) (su : ByteArray → Nat), j ≤ N ∧ i = .int .i64 (j : Nat) ∧ Lies8 wr d S φ σ mb (.slice pb N cb) { R with su := su } ∧ wr.heap[zb]? = some (.cells #[.int .i64 (m : Nat)] 3 (0, 0)) ∧ (m : Int) ≤ 9223372036854775807 ∧ Hid (sureL m (R.wr.drop j) su = F) ∧ Hid (∀ x ∈ R.names, su x + totW (R.wr.drop j) ≤ 1099511627776) ∧ Turn (fun k => S k ∨ k = zb) w wr) (fun i _ => N - (intOf i).toNat)
  case atStart => exact ⟨0, n, R.su, Nat.zero_le _, rfl, h0, hz, hn64, HF.out, hmax, Turn.refl _ _⟩
  case round =>
    clear h0 h hz c1 hn64
    obtain ⟨j, m, su, hj, rfl, hL, hz, hm64, HS, HB, ht⟩ := hrel
    by_cases hlt : j < N
    · have hjl : j < R.wr.length := by rw [HN.out]; exact hlt
      obtain ⟨g, cap, e, hcap, d1, d2⟩ := hL.write (j := j) hjl
      simp only [Value.slice.injEq] at e
      obtain ⟨rfl, -, rfl⟩ := e
      dsimp only at d1 d2 hcap
      rw [HN.out] at hcap
      have hmem : (R.wr.getD j default).1 ∈ R.names := hL.mem _ (getD_memW hjl)
      have Hd : Hid (R.wr.drop j = R.wr.getD j default :: R.wr.drop (j + 1)) := drop_cons hjl
      obtain ⟨x, Hx⟩ : ∃ x, Hid (R.wr.getD j default = x) := ⟨_, rfl⟩
      rw [Hx.out] at d1 d2 hmem Hd
      obtain ⟨xf, xs⟩ := x
      dsimp only at d1 d2 hmem
      have hb1 := HB.out xf hmem
      rw [Hd.out, totW] at hb1
      dsimp only at hb1
      have hA := heap_alloc_new wr (.cells #[.pointer (some ⟨φ xf, 0, none⟩), .int .i64 (xs : Nat)] 82)
      have hba : Below wr.heap.size wr (wr.alloc (.cells #[.pointer (some ⟨φ xf, 0, none⟩), .int .i64 (xs : Nat)] 82)) := (Below.refl _ _).alloc (Nat.le_refl _) _
      have hza : (wr.alloc (.cells #[.pointer (some ⟨φ xf, 0, none⟩), .int .i64 (xs : Nat)] 82)).heap.size = wr.heap.size + 1 := by simp
      have hz1 := (hba.block zb (Array.getElem?_eq_some_iff.1 hz).1).trans hz
      have hL1 := hL.below hba
      have t1 : Turn (fun k => S k ∨ k = zb) w (wr.alloc (.cells #[.pointer (some ⟨φ xf, 0, none⟩), .int .i64 (xs : Nat)] 82)) := ht.alloc _
      go_wp2_with fail
      generalize wr.alloc (.cells #[.pointer (some ⟨φ xf, 0, none⟩), .int .i64 (xs : Nat)] 82) = wa at *
      have hws := ht.size
      generalize wr.heap.size = ab at *
      obtain ⟨k0, k1, kf⟩ := hL1.fcells hmem
      dsimp only at k1
      have b0 := cell_of hA (i := 0) (v := .pointer (some ⟨φ xf, 0, none⟩)) rfl
      have b1 := cell_of hA (i := 1) (v := .int .i64 (xs : Nat)) rfl
      clear hL ht hz hba d1 d2
      have hfl : φ xf < wa.heap.size := hL1.ltF hmem
      have hfz : φ xf ≠ zb := fun e => hzS (e ▸ hL1.sF xf hmem)
      have habl : ab < wa.heap.size := by omega
      have habz : ab ≠ zb := by omega
      have hFile := hL1.file xf hmem
      have hcr := (crash1_any (φ xf) xs m zb wa.drew hz1 hm64 (by omega)).mono (R' := fun e w2 => e = .returned (.int .i64 (min xs m : Nat)) ∧ w2.heap[zb]? = some (.cells #[.int .i64 (m - xs : Nat)] 3 (0, 0)) ∧ Turn (fun k => k = zb) wa.drew w2 ∧ w2.cell? ⟨φ xf, 1, none⟩ = some (.int .i64 (su xf : Nat)) ∧ w2.cell? ⟨ab, 0, none⟩ = some (.pointer (some ⟨φ xf, 0, none⟩)) ∧ w2.frozen? ⟨φ xf, 1, none⟩ = false)
        fun e w2 ⟨he, hz2, t2⟩ => ⟨he, hz2, t2, (t2.cell (p := ⟨φ xf, 1, none⟩) hfl hfz).trans k1, (t2.cell (p := ⟨ab, 0, none⟩) habl habz).trans b0, froz_of (i := 1) ((t2.block (φ xf) hfl hfz).trans hFile)⟩
      go_region_with (go_at_call 60; refine hcr.mono ?_; rintro e w2 ⟨rfl, hz2, t2, k1', b0', kf'⟩)
      all_goals
        clear hcr
        have hL2 := (hL1.drewN 1).same (w' := w2) fun k hk hk' => t2.block k hk (by rintro rfl; exact hzS hk')
        have hL3 := hL2.setS hmem (su xf + min xs m)
        have hz3 : (w2.setCell ⟨φ xf, 1, none⟩ (.int .i64 (su xf + min xs m : Nat))).heap[zb]? = _ := (heap_set_other (Ne.symm hfz)).trans hz2
        have t3 : Turn (fun k => S k ∨ k = zb) w (w2.setCell ⟨φ xf, 1, none⟩ (.int .i64 (su xf + min xs m : Nat))) := ((t1.drew).wide t2 fun k hk => .inl (.inr hk)).setCell (p := ⟨φ xf, 1, none⟩) (.inl (.inl (hL1.sF xf hmem))) _
        have hmn : min xs m ≤ xs := Nat.min_le_left _ _
        have HS2 : Hid (sureL (m - xs) (R.wr.drop (j + 1)) (upd su xf (su xf + min xs m)) = F) := by
          have := HS.out
          rw [Hd.out, sureL] at this
          exact this
        have HB2 : Hid (∀ x ∈ R.names, upd su xf (su xf + min xs m) x + totW (R.wr.drop (j + 1)) ≤ 1099511627776) := by
          intro x hx
          by_cases hxf : x = xf
          · subst hxf; rw [upd_at]; omega
          · have := HB.out x hx
            rw [Hd.out, totW] at this
            dsimp only at this
            rw [upd_ne hxf]
            omega
        rw [Int.natCast_add] at hL3 hz3 t3
        generalize min xs m = mn at *
        go_wp2
        go_roundw
        case rel => exact ⟨j + 1, m - xs, upd su xf (su xf + mn), by omega, by go_num, hL3, hz3, by omega, HS2, HB2, t3⟩
        case measure => simp only [intOf]; omega
    · have hjn : j = N := by omega
      subst hjn
      have hsF : su = F := by
        have := HS.out
        rw [← HN.out, List.drop_length] at this
        exact this
      subst hsF
      clear HS HB hj hlt hz hm64
      have hok := fun (j : Nat) (x : ByteArray) (hx : x ∈ R.names) => cuts_ok (R := { R with su := su }) hnd hL.mem hF hbt hu hub j hx
      have hmemR := hL.mem
      obtain ⟨-, c1, -⟩ := hL.cells
      obtain ⟨R1, HR1⟩ : ∃ R1 : RD, Hid ({ R with su := su } = R1) := ⟨_, rfl⟩
      have Hw1 : Hid (R1.wr = R.wr ∧ R1.names = R.names) := by rw [← HR1.out]; exact ⟨rfl, rfl⟩
      rw [HR1.out] at hok hL
      go_wp2
      go_loopw [34] (fun i wr2 => ∃ (k : Nat) (σ2 : ByteArray → Value), k ≤ j ∧ i = .int .i64 (k : Nat) ∧ Lies8 wr2 d S φ σ2 mb (.slice pb j cb) (cuts R1 (R1.wr.take k)) ∧ Turn (fun k => S k ∨ k = zb) w wr2) (fun i _ => j - (intOf i).toNat)
      case atStart => exact ⟨0, σ, Nat.zero_le _, rfl, by rw [List.take_zero]; exact hL, ht⟩
      case round =>
        clear hL ht c1
        obtain ⟨k, σ2, hk, rfl, hL, ht⟩ := hrel
        by_cases hlt : k < j
        · have hkeep := cuts_keeps (R1.wr.take k) R1
          have hkl : k < R.wr.length := by rw [HN.out]; exact hlt
          have hwrk : (cuts R1 (R1.wr.take k)).wr = R.wr := hkeep.2.2.1.trans Hw1.out.1
          obtain ⟨g, cap, e, hcap, d1, d2⟩ := hL.write (j := k) (by rw [hwrk]; exact hkl)
          simp only [Value.slice.injEq] at e
          obtain ⟨rfl, -, rfl⟩ := e
          rw [hwrk] at d1 d2 hcap
          rw [HN.out] at hcap
          have hmem : (R.wr.getD k default).1 ∈ R.names := hmemR _ (getD_memW hkl)
          have Ht : Hid (R1.wr.take (k + 1) = R1.wr.take k ++ [R.wr.getD k default]) := by
            show _ = _
            rw [Hw1.out.1]
            exact take_snocW hkl
          obtain ⟨x, Hx⟩ : ∃ x, Hid (R.wr.getD k default = x) := ⟨_, rfl⟩
          rw [Hx.out] at d1 d2 hmem Ht
          obtain ⟨xf, xs⟩ := x
          dsimp only at d1 d2 hmem
          clear hkeep hwrk
          have hokx := hok k xf hmem
          obtain ⟨o1, o2, o3, o4, o5⟩ := hokx
          have HC : Hid (cuts R1 (R1.wr.take (k + 1)) = (cuts R1 (R1.wr.take k)).cut xf) := by
            show _ = _
            rw [Ht.out, cuts_snoc]
          have hba : Below wr.heap.size wr (wr.alloc (.cells #[.pointer (some ⟨φ xf, 0, none⟩), .int .i64 (xs : Nat)] 82)) := (Below.refl _ _).alloc (Nat.le_refl _) _
          have hL1 := hL.below hba
          have t1 : Turn (fun k => S k ∨ k = zb) w (wr.alloc (.cells #[.pointer (some ⟨φ xf, 0, none⟩), .int .i64 (xs : Nat)] 82)) := ht.alloc _
          have hS1 : ∀ i, (wr.alloc (.cells #[.pointer (some ⟨φ xf, 0, none⟩), .int .i64 (xs : Nat)] 82)).heap.size ≤ i → S i := fun i hi => hS i (Nat.le_trans t1.size hi)
          have hcut := cut_any hL1 hS1 o1 o2 o3 ⟨o4, o5⟩
          generalize cuts R1 (R1.wr.take k) = Rk at *
          go_wp2_with fail
          refine hcut.mono ?_
          rintro e w2 ⟨⟨v, rfl⟩, ⟨σ3, hL3⟩, t2⟩
          clear hcut hL hL1 d1 d2
          go_wp2
          go_roundw
          case rel => exact ⟨k + 1, σ3, by omega, by go_num, by rw [HC.out]; exact hL3, t1.wide t2 fun i hi => .inl (.inl hi)⟩
          case measure => simp only [intOf]; omega
        · have hkn : k = j := by omega
          subst hkn
          have hall : R1.wr.take k = R1.wr := by rw [Hw1.out.1, ← HN.out, List.take_length]
          rw [hall] at hL
          obtain ⟨-, c1, c2, -, -, -, -, -, -, cf⟩ := hL.cells
          have h5 := hL.setB (v' := .slice none 0 0) (l := []) ⟨rfl, rfl, rfl, Nat.le_refl _, fun _ _ _ => rfl⟩ (World.ownsRow_nil _ _ _ _) (fun v hv => by cases hv) (.inr fun g hg => by cases hg) (fun i hi => hS i (Nat.le_trans ht.size hi))
          have h6 := h5.setD 2 (.int .i64 0) { cuts R1 R1.wr with wr := [], pending := 0 } rfl rfl rfl rfl rfl rfl
          have t6 := (ht.setCell (p := ⟨d, 1, none⟩) (.inl (.inl hL.sD)) (.slice none 0 0)).setCell (p := ⟨d, 2, none⟩) (.inl (.inl hL.sD)) (.int .i64 0)
          have HE : Hid ({ cuts R1 R1.wr with wr := [], pending := 0 } = R.settled n) := by
            show _ = _
            unfold RD.settled
            rw [HF.out, HR1.out, Hw1.out.1]
          generalize ({ cuts R1 R1.wr with wr := [], pending := 0 } : RD) = R2 at *
          clear h5 hok
          go_wp2
          go_end0
          exact ⟨⟨_, rfl⟩, ⟨σ2, by rw [← HE.out]; exact h6⟩, t6⟩
end
end Go.Proofs.Ytefgnehahedckaa
