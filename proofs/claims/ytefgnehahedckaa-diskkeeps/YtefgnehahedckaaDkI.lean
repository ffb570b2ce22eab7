/-
  Contracts: the closures of Sync and Crash, which say how much of a write becomes sure; what settle makes of the files, in plain mathematics.
-/
import Derived.Test.YtefgnehahedckaaDkH
import Derived.Deep.RegionWith
namespace Go.Proofs.Ytefgnehahedckaa
open Go.RowKit Go.Maps

theorem sync1_any (j s : Nat) (w : World) : Calls Try.prog 56 #[.agg #[.pointer (some ⟨j, 0, none⟩), .int .i64 (s : Nat)]] w fun e w' => e = .returned (.int .i64 (s : Nat)) ∧ Below w.heap.size w w' := by
  go_enter Try.func56, Try.ntmps56
  go_wp2
  go_ret
  exact ⟨rfl, (Below.refl _ _).alloc (Nat.le_refl _) _⟩
theorem crash1_any (j s n zb : Nat) (w : World) (hz : w.heap[zb]? = some (.cells #[.int .i64 (n : Nat)] 3 (0, 0))) (hn : (n : Int) ≤ 9223372036854775807) (hs : (s : Int) ≤ 9223372036854775807) :
    Calls Try.prog 60 #[.agg #[.pointer (some ⟨j, 0, none⟩), .int .i64 (s : Nat)], .pointer (some ⟨zb, 0, none⟩)] w fun e w' => e = .returned (.int .i64 (min s n : Nat)) ∧ w'.heap[zb]? = some (.cells #[.int .i64 (n - s : Nat)] 3 (0, 0)) ∧ Turn (fun k => k = zb) w w' := by
  have hzl : zb < w.heap.size := (Array.getElem?_eq_some_iff.1 hz).1
  have c0 := cell_of hz (i := 0) (v := .int .i64 (n : Nat)) rfl
  have f0 := froz_of hz (i := 0)
  by_cases hle : s ≤ n
  · have e1 : min s n = s := Nat.min_eq_left hle
    have hle' : (s : Int) ≤ n := by omega
    rw [e1]
    go_enter Try.func60, Try.ntmps60
    go_wp2
    go_ret
    refine ⟨rfl, ?_, ((Turn.refl (fun k => k = zb) w).setCell (p := ⟨zb, 0, none⟩) (.inl rfl) _).alloc _⟩
    refine (Below.heap_alloc _ _ _ (by simp [World.setCell]; exact hzl)).trans ((heap_set_same hz).trans ?_)
    simp
    omega
  · have e1 : min s n = n := Nat.min_eq_right (by omega)
    have hle' : (n : Int) < s := by omega
    rw [e1]
    go_enter Try.func60, Try.ntmps60
    go_wp2
    go_ret
    refine ⟨rfl, ?_, ((Turn.refl (fun k => k = zb) w).setCell (p := ⟨zb, 0, none⟩) (.inl rfl) _).alloc _⟩
    refine (Below.heap_alloc _ _ _ (by simp [World.setCell]; exact hzl)).trans ((heap_set_same hz).trans ?_)
    simp
    omega

def totW : List (ByteArray × Nat) → Nat
  | [] => 0
  | v :: r => v.2 + totW r
/-- How much is sure of each file, once the first n bytes of these writes are. -/
def sureL : Nat → List (ByteArray × Nat) → (ByteArray → Nat) → ByteArray → Nat
  | _, [], su => su
  | n, v :: r, su => sureL (n - v.2) r (upd su v.1 (su v.1 + min v.2 n))
theorem sureL_le : ∀ (l : List (ByteArray × Nat)) (n : Nat) (su : ByteArray → Nat) (x : ByteArray), sureL n l su x ≤ su x + totW l
  | [], _, _, _ => Nat.le_refl _
  | v :: r, n, su, x => by
    have := sureL_le r (n - v.2) (upd su v.1 (su v.1 + min v.2 n)) x
    rw [sureL, totW]
    by_cases hx : x = v.1
    · subst hx
      rw [upd_at] at this
      omega
    · rw [upd_ne hx] at this
      omega
/-- The files that were written are cut. -/
def cuts (R : RD) (l : List (ByteArray × Nat)) : RD := l.foldl (fun R v => R.cut v.1) R
theorem cuts_snoc (R : RD) (l : List (ByteArray × Nat)) (v : ByteArray × Nat) : cuts R (l ++ [v]) = (cuts R l).cut v.1 := by unfold cuts; rw [List.foldl_append]; rfl
theorem cuts_keeps : ∀ (l : List (ByteArray × Nat)) (R : RD), (cuts R l).names = R.names ∧ (cuts R l).su = R.su ∧ (cuts R l).wr = R.wr ∧ (cuts R l).mn = R.mn ∧ (cuts R l).pending = R.pending ∧ (cuts R l).blocks = R.blocks ∧ (cuts R l).on = R.on ∧ (cuts R l).ops = R.ops ∧ (cuts R l).armed = R.armed ∧ (cuts R l).keep = R.keep
  | [], _ => ⟨rfl, rfl, rfl, rfl, rfl, rfl, rfl, rfl, rfl, rfl⟩
  | v :: l, R => cuts_keeps l (R.cut v.1)
theorem cuts_bt : ∀ (l : List (ByteArray × Nat)) (R : RD) (x : ByteArray), (cuts R l).bt x = if x ∈ l.map Prod.fst then (R.bt x).take (R.su x) else R.bt x
  | [], _, _ => by simp [cuts]
  | v :: l, R, x => by
    show (cuts (R.cut v.1) l).bt x = _
    rw [cuts_bt l (R.cut v.1) x]
    show (if x ∈ l.map Prod.fst then (upd R.bt v.1 _ x).take (R.su x) else upd R.bt v.1 _ x) = _
    by_cases hx : x = v.1
    · subst hx
      rw [upd_at, List.take_take, Nat.min_self]
      simp
    · rw [upd_ne hx]
      have : (x ∈ (v :: l).map Prod.fst) ↔ x ∈ l.map Prod.fst := by rw [List.map_cons, List.mem_cons]; exact ⟨fun h => h.resolve_left hx, .inr⟩
      by_cases hm : x ∈ l.map Prod.fst
      · rw [if_pos hm, if_pos (this.2 hm)]
      · rw [if_neg hm, if_neg fun h => hm (this.1 h)]
/-- The sum over names. -/
def sumN (f : ByteArray → Nat) : List ByteArray → Nat
  | [] => 0
  | x :: r => f x + sumN f r
theorem sumN_congr {f g : ByteArray → Nat} : ∀ {l : List ByteArray}, (∀ x ∈ l, f x = g x) → sumN f l = sumN g l
  | [], _ => rfl
  | x :: l, h => by rw [sumN, sumN, h x List.mem_cons_self, sumN_congr fun y hy => h y (List.mem_cons_of_mem _ hy)]
theorem sumN_upd {f : ByteArray → Nat} {x : ByteArray} {k : Nat} : ∀ {l : List ByteArray}, l.Nodup → x ∈ l → sumN (upd f x k) l + f x = sumN f l + k
  | [], _, h => by cases h
  | y :: l, hn, h => by
    obtain ⟨h1, h2⟩ := List.nodup_cons.1 hn
    rw [sumN, sumN]
    by_cases hy : y = x
    · subst hy
      rw [upd_at, sumN_congr (f := upd f y k) (g := f) fun z hz => upd_ne fun e => h1 (e ▸ hz)]
      omega
    · have := sumN_upd (f := f) (x := x) (k := k) h2 ((List.mem_cons.1 h).resolve_left (Ne.symm hy))
      rw [upd_ne hy]
      omega
/-- The blocks are counted right all the while. -/
theorem cut_used (R : RD) (hn : R.names.Nodup) {x : ByteArray} (hx : x ∈ R.names) (hs : R.su x ≤ (R.bt x).length) (hu : R.used = (sumN (fun x => need (R.bt x).length) R.names : Nat)) : (R.cut x).used = (sumN (fun y => need ((R.cut x).bt y).length) R.names : Nat) := by
  have e : ∀ y ∈ R.names, need ((R.cut x).bt y).length = upd (fun y => need (R.bt y).length) x (need (R.su x)) y := by
    intro y _
    show need (upd R.bt x _ y).length = _
    by_cases hy : y = x
    · subst hy
      rw [upd_at, upd_at, List.length_take, Nat.min_eq_left hs]
    · rw [upd_ne hy, upd_ne hy]
  have h1 := sumN_upd (f := fun y => need (R.bt y).length) (k := need (R.su x)) hn hx
  rw [sumN_congr e]
  show R.used - ((need (R.bt x).length : Nat) - (need (R.su x) : Nat) : Int) = _
  rw [hu]
  omega
theorem cuts_used : ∀ (l : List (ByteArray × Nat)) (R : RD), R.names.Nodup → (∀ v ∈ l, v.1 ∈ R.names) → (∀ x ∈ R.names, R.su x ≤ (R.bt x).length) → R.used = (sumN (fun x => need (R.bt x).length) R.names : Nat) →
    (cuts R l).used = (sumN (fun x => need ((cuts R l).bt x).length) R.names : Nat) ∧ ∀ x ∈ R.names, R.su x ≤ ((cuts R l).bt x).length
  | [], _, _, _, hs, hu => ⟨hu, hs⟩
  | v :: l, R, hn, hm, hs, hu => by
    have hv := hm v List.mem_cons_self
    refine cuts_used l (R.cut v.1) hn (fun u hu => hm u (List.mem_cons_of_mem _ hu)) (fun x hx => ?_) (cut_used R hn hv (hs _ hv) hu)
    show R.su x ≤ (upd R.bt v.1 _ x).length
    by_cases hxv : x = v.1
    · subst hxv
      rw [upd_at, List.length_take, Nat.min_eq_left (hs _ hv)]
      exact Nat.le_refl _
    · rw [upd_ne hxv]; exact hs x hx
end Go.Proofs.Ytefgnehahedckaa
