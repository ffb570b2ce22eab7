/-
  A slice of acts that came in; few of the statements' package.
-/
import Derived.Test.YtefgnehahedckaaDs3
import Derived.Test.YtefgnehahedckaaDs0
namespace Go.Proofs.Ytefgnehahedckaa
open Go.RowKit Go.Maps

/-- An act: its kind, its two names, where its bytes lie, its bytes, its two numbers. -/
structure Act8 where
  kind : Int
  a : ByteArray
  b : ByteArray
  p : Option Addr
  c : Nat
  data : List Int
  n : Int
  k : Int
instance : Inhabited Act8 := ⟨⟨0, ByteArray.empty, ByteArray.empty, none, 0, [], 0, 0⟩⟩
def Act8.cells (x : Act8) : List Value := [.int .i64 x.kind, .string x.a, .string x.b, .slice x.p x.data.length x.c, .int .i64 x.n, .int .i64 x.k]
def in64 (z : Int) : Prop := -9223372036854775808 ≤ z ∧ z ≤ 9223372036854775807
/-- What holds of an act that came in. -/
structure Fits8 (w : World) (x : Act8) : Prop where
  has : Has w (.slice x.p x.data.length x.c) x.data
  isB : isB8 x.data
  len : x.data.length ≤ 140737488351232
  sa : x.a.size ≤ 140737488351232
  sb : x.b.size ≤ 140737488351232
  kind : in64 x.kind
  n : in64 x.n
  k : in64 x.k
/-- A slice of acts, as it lies in memory. -/
def HasA8 (w : World) (v : Value) (xs : List Act8) : Prop :=
  ∃ p c, v = .slice p xs.length c ∧ xs.length ≤ c ∧ (p = none → c = 0) ∧
    (0 < xs.length → ∃ b o, p = some ⟨b, o, none⟩ ∧ b < w.heap.size ∧ ∀ i, i < xs.length →
      w.cell? ⟨b, o + i * 6, none⟩ = some (.int .i64 (xs.getD i default).kind) ∧ w.cell? ⟨b, o + i * 6 + 1, none⟩ = some (.string (xs.getD i default).a) ∧ w.cell? ⟨b, o + i * 6 + 2, none⟩ = some (.string (xs.getD i default).b) ∧
      w.cell? ⟨b, o + i * 6 + 3, none⟩ = some (.slice (xs.getD i default).p (xs.getD i default).data.length (xs.getD i default).c) ∧ w.cell? ⟨b, o + i * 6 + 4, none⟩ = some (.int .i64 (xs.getD i default).n) ∧ w.cell? ⟨b, o + i * 6 + 5, none⟩ = some (.int .i64 (xs.getD i default).k)) ∧
    ∀ x ∈ xs, Fits8 w x
theorem HasA8.below {w w' : World} {B : Nat} {v : Value} {xs : List Act8} (h : HasA8 w v xs) (hb : Below B w w') (hB : w.heap.size ≤ B) : HasA8 w' v xs := by
  obtain ⟨p, c, rfl, h1, h2, h3, h8⟩ := h
  refine ⟨p, c, rfl, h1, h2, fun h0 => ?_, fun x hx => ?_⟩
  · obtain ⟨b, o, rfl, hlt, hc⟩ := h3 h0
    have hcell : ∀ k, w'.cell? ⟨b, k, none⟩ = w.cell? ⟨b, k, none⟩ := fun k => hb.cell (p := ⟨b, k, none⟩) (Nat.lt_of_lt_of_le hlt hB)
    refine ⟨b, o, rfl, Nat.lt_of_lt_of_le hlt hb.size, fun i hi => ?_⟩
    simp only [hcell]
    exact hc i hi
  · have h9 := h8 x hx
    exact ⟨h9.has.below hb hB, h9.isB, h9.len, h9.sa, h9.sb, h9.kind, h9.n, h9.k⟩

/-- What few reckons of a row of acts. -/
def cost8 (x : Act8) : Nat := 1 + x.data.length / 50 + (x.a.size + x.b.size) / 50
def Few8 (xs : List Act8) : Prop := (xs.map cost8).sum ≤ 300
theorem few_len8 {xs : List Act8} (h : Few8 xs) : xs.length ≤ 300 := by
  have : ∀ l : List Act8, l.length ≤ (l.map cost8).sum := by
    intro l
    induction l with
    | nil => exact Nat.le_refl _
    | cons a l ih => rw [List.map_cons, List.sum_cons, List.length_cons]; unfold cost8; unfold cost8 at ih; omega
  exact Nat.le_trans (this xs) h
theorem few_size8 {xs : List Act8} (h : Few8 xs) {x : Act8} (hx : x ∈ xs) : x.data.length ≤ 15000 ∧ x.a.size + x.b.size ≤ 15000 := by
  have : ∀ l : List Act8, x ∈ l → cost8 x ≤ (l.map cost8).sum := by
    intro l
    induction l with
    | nil => exact fun h => by cases h
    | cons b l ih =>
      intro hm
      rw [List.map_cons, List.sum_cons]
      rcases List.mem_cons.1 hm with rfl | hm
      · omega
      · have := ih hm; omega
  have h1 := this xs hx
  unfold Few8 at h
  unfold cost8 at h1 h
  omega
theorem few_step8 (ds xa xb : Nat) (h0 : ds ≤ 140737488351232) (h1 : xa ≤ 140737488351232) (h2 : xb ≤ 140737488351232) :
    ∃ s q r : Nat, wrap64 ((xa : Int) + (xb : Int)) = (s : Int) ∧ (s : Int).tdiv 50 = (q : Int) ∧ (ds : Int).tdiv 50 = (r : Int) ∧ (q : Int) ≤ 281474976710656 ∧ (r : Int) ≤ 281474976710656 ∧ 1 + ds / 50 + (xa + xb) / 50 = 1 + r + q := by
  refine ⟨xa + xb, (xa + xb) / 50, ds / 50, ?_, ?_, ?_, by omega, by omega, rfl⟩
  · rw [IntWalk.wrap64_in ((xa : Int) + xb) (by omega)]; omega
  · rw [Int.tdiv_eq_ediv_of_nonneg (by omega)]; omega
  · rw [Int.tdiv_eq_ediv_of_nonneg (by omega)]; omega

set_option maxRecDepth 10000 in
set_option maxHeartbeats 4000000 in
theorem few8 (p : Option Addr) (n c : Nat) (xs : List Act8) (hlen : xs.length = n) (w : World) (hX : HasA8 w (.slice p n c) xs) (hn : (n : Int) ≤ 9223372036854775807) :
    Calls Try.prog 11 #[.slice p n c] w fun e w' => ∃ r : Bool, e = .returned (.bool r) ∧ (r = true → Few8 xs) ∧ Below w.heap.size w w' := by
  have hlen' : Hid (xs.length = n) := hlen
  clear hlen
  go_enter Try.func11, Try.ntmps11
  go_wp2
  go_loopw [8, 3] (fun t s wr => ∃ (j : Nat) (k : Nat), j ≤ n ∧ t = .int .i64 (j : Nat) ∧ s = .int .i64 (k : Nat) ∧ k ≤ 300 ∧ Hid (((xs.take j).map cost8).sum = k) ∧ Below w.heap.size w wr) (fun t _ _ => n - (intOf t).toNat)
  case atStart => exact ⟨0, 0, by omega, rfl, rfl, by omega, rfl, Below.refl _ _⟩
  case round =>
    obtain ⟨j, k, hj, rfl, rfl, hk, hs, hb⟩ := hrel
    by_cases hlt : j < n
    · obtain ⟨p', c', hpv, hcc, _, hcell, hfit⟩ := hX.below (hb.mono (Nat.le_refl _)) (Nat.le_refl _)
      simp only [Value.slice.injEq] at hpv
      obtain ⟨rfl, hnn, rfl⟩ := hpv
      rw [← hnn] at hcc hcell
      clear hnn
      obtain ⟨bb, oo, rfl, hbb, hcell⟩ := hcell (by omega)
      obtain ⟨c1, c2, c3, c4, c5, c6⟩ := hcell j (by omega)
      have hjx : j < xs.length := by rw [hlen'.out]; exact hlt
      have hf := hfit (xs.getD j default) (by rw [List.getD_eq_getElem?_getD, List.getElem?_eq_getElem hjx]; exact List.getElem_mem hjx)
      clear hcell hfit
      have hkk : Hid (xs.take j ++ [xs.getD j default] = xs.take (j + 1)) := by
        show _ = _
        rw [List.take_succ_eq_append_getElem hjx]
        simp [List.getD_eq_getElem?_getD, List.getElem?_eq_getElem hjx]
      clear hjx
      generalize xs.getD j default = act at *
      obtain ⟨kd, ka, kb, kp, kc, kdat, kn, kk⟩ := act
      obtain ⟨_, _, z0, z1, z2, _, _, _⟩ := hf
      obtain ⟨_, _, hdef, hdc, _⟩ := ‹Has wr _ _›
      simp only [Value.slice.injEq] at hdef
      obtain ⟨rfl, _, rfl⟩ := hdef
      dsimp only at c1 c2 c3 c4 c5 c6 z0 z1 z2 hdc
      have hsum : Hid (((xs.take (j + 1)).map cost8).sum = k + (1 + kdat.length / 50 + (ka.size + kb.size) / 50)) := by
        show _ = _
        rw [← hkk.out, List.map_append, List.sum_append, hs.out]; simp [cost8]
      obtain ⟨s, q, r, e1, e2, e3, e4, e5, e6⟩ := few_step8 kdat.length ka.size kb.size z0 z1 z2
      rw [e6] at hsum
      clear hkk hs z0 z1 z2 e6
      by_cases h6 : 300 < (k : Int) + (1 + r + q)
      · go_wp2
        go_ret
        exact .inl ⟨rfl, hb.alloc (by have := hb.size; omega) _⟩
      · go_wp2
        go_roundw
        case rel =>
          refine ⟨j + 1, k + (1 + r + q), by omega, by simp, by simp, by omega, ?_, hb.alloc (by have := hb.size; omega) _⟩
          exact hsum
        case measure => simp only [intOf]; omega
    · have hjn : j = n := by omega
      subst hjn
      go_wp2
      go_ret
      refine ⟨true, rfl, fun _ => ?_, hb⟩
      unfold Few8
      rw [← List.take_length (l := xs), hlen'.out, hs.out]
      exact hk
end Go.Proofs.Ytefgnehahedckaa
