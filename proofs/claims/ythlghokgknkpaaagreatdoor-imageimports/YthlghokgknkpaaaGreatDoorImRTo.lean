import Derived.Test.YthlghokgknkpaaaGreatDoorNumTo
import Derived.Test.YthlghokgknkpaaaGreatDoorImXTo
import Derived.Laws.StructEq
import Derived.Shelf.SlicesE.Equal
import Derived.Shelf.RegionOpenPlain
import Derived.Deep.LoopGhost
import Derived.Shelf.SlicesE.Clone
import Derived.Ground.SlgnProg
/-
  Plain mathematics: a map's pairs by keys and what it has; maps that few pairs were put into.
-/
namespace Go.Proofs.YthlghokgknkpaaaGreatDoor
open Go.RowKit Go.Shelf

theorem has_valK {M : SM} (h : M.Inv IsV_s) {k s : ByteArray} : M.Has k (.string s) ↔ k ∈ M.keys ∧ s = valK M k := by
  constructor
  · intro hh
    obtain ⟨p, hf, hv⟩ := (has_find h).1 hh
    obtain ⟨p1, p2, p3⟩ := (find_is h).1 hf
    refine ⟨List.mem_map.2 ⟨p, full_mem.2 ⟨p1, p2⟩, p3⟩, ?_⟩
    have : M.get k (.string ⟨#[]⟩) = (.string s, true) := by unfold SM.get; rw [hf]; simp only; rw [hv]
    unfold valK
    rw [this]
  · rintro ⟨hk, rfl⟩
    have hs := keys_has h hk
    cases hf : M.find k with
    | none => rw [hf] at hs; cases hs
    | some p =>
      refine (has_find h).2 ⟨p, hf, ?_⟩
      have := get_val h k
      unfold SM.get at this
      rw [hf] at this
      exact this
theorem has_pairs {M : SM} (h : M.Inv IsV_s) {k s : ByteArray} : (k, s) ∈ M.pairs ↔ M.Has k (.string s) := by
  rw [has_valK h]
  unfold SM.pairs
  rw [List.mem_map]
  constructor
  · rintro ⟨k', hk, e⟩
    simp only [Prod.mk.injEq] at e
    obtain ⟨rfl, rfl⟩ := e
    exact ⟨hk, rfl⟩
  · rintro ⟨hk, rfl⟩
    exact ⟨k, hk, rfl⟩
theorem img_mem {M : SM} (h : M.Inv IsV_s) {k s : ByteArray} : (k, s) ∈ M.img ↔ M.Has k (.string s) := by
  rw [← has_pairs h]
  exact (srt_perm M.pairs).mem_iff
theorem nodup_of_fst {l : List (ByteArray × ByteArray)} (h : (l.map Prod.fst).Nodup) : l.Nodup := by
  rw [List.nodup_iff_pairwise_ne, List.pairwise_map] at h
  rw [List.nodup_iff_pairwise_ne]
  exact h.imp fun h e => h (by rw [e])
theorem img_of {M : SM} (h : M.Inv IsV_s) {l : List (ByteArray × ByteArray)} (hr : Rise l) (hl : ∀ k s, M.Has k (.string s) ↔ (k, s) ∈ l) : M.img = l := by
  refine (srt_is hr ?_).symm
  rw [List.perm_ext_iff_of_nodup (nodup_of_fst hr.nodup) (nodup_of_fst (pairs_nodup h))]
  rintro ⟨k, s⟩
  rw [has_pairs h, hl]
theorem img_eq {M N : SM} (h : M.Inv IsV_s) (k : N.Inv IsV_s) (hl : ∀ k s, M.Has k (.string s) ↔ N.Has k (.string s)) : M.img = N.img :=
  img_of h (img_rise k) fun a s => by rw [hl, img_mem k]

/-- A map with at most c keys, all texts short. -/
structure Fine (c : Nat) (M : SM) : Prop where
  inv : M.Inv IsV_s
  n : M.n ≤ c
  sz : ∀ k s, M.Has k (.string s) → k.size ≤ 131072 ∧ s.size ≤ 131072
def putP (M : SM) (p : ByteArray × ByteArray) : SM := (M.put p.1 (.string p.2) (.string ⟨#[]⟩)).2.2
def putL (M : SM) (l : List (ByteArray × ByteArray)) : SM := l.foldl putP M
theorem putL_snoc (M : SM) (l : List (ByteArray × ByteArray)) (p : ByteArray × ByteArray) : putL M (l ++ [p]) = putP (putL M l) p := by unfold putL; rw [List.foldl_append]; rfl
theorem has_putP {M : SM} {c : Nat} (h : Fine c M) (hc : c < 2000) (p : ByteArray × ByteArray) (hp : p.1.size ≤ 131072) (k s : ByteArray) : (putP M p).Has k (.string s) ↔ (k = p.1 ∧ s = p.2) ∨ (k ≠ p.1 ∧ M.Has k (.string s)) := by
  have hn := h.n
  obtain ⟨_, _, _, h4⟩ := inv_put h.inv (key := p.1) (v := .string p.2) (z := .string ⟨#[]⟩) (isV_string _) (isV_string _) (by omega)
  have := (h4 (by omega)).2.2.2 k (.string s)
  rw [Value.string.injEq] at this
  exact this
theorem fine_putP {M : SM} {c : Nat} (h : Fine c M) (hc : c < 2000) (p : ByteArray × ByteArray) (hp : p.1.size ≤ 131072 ∧ p.2.size ≤ 131072) : Fine (c + 1) (putP M p) := by
  have hn := h.n
  obtain ⟨h1, _, _, h4⟩ := inv_put h.inv (key := p.1) (v := .string p.2) (z := .string ⟨#[]⟩) (isV_string _) (isV_string _) (by omega)
  refine ⟨h1, ?_, fun k s hk => ?_⟩
  · have := (h4 (by omega)).2.2.1
    unfold putP
    rw [this]
    split <;> omega
  · rcases (has_putP h hc p hp.1 k s).1 hk with ⟨rfl, rfl⟩ | ⟨_, hk⟩
    · exact hp
    · exact h.sz k s hk
theorem Fine.mono {M : SM} {c d : Nat} (h : Fine c M) (hd : c ≤ d) : Fine d M := ⟨h.inv, Nat.le_trans h.n hd, h.sz⟩
theorem fine_putL : ∀ (l : List (ByteArray × ByteArray)) {M : SM} {c : Nat}, Fine c M → c + l.length ≤ 2000 → (∀ p ∈ l, p.1.size ≤ 131072 ∧ p.2.size ≤ 131072) → Fine (c + l.length) (putL M l)
  | [], M, c, h, _, _ => h
  | p :: l, M, c, h, hc, hs => by
    rw [List.length_cons] at hc ⊢
    have := fine_putL l (fine_putP h (by omega) p (hs p List.mem_cons_self)) (by omega) fun q hq => hs q (List.mem_cons_of_mem _ hq)
    rw [show c + (l.length + 1) = c + 1 + l.length by omega]
    exact this
theorem fine_empty (k0 k1 : Int) (g : Nat) (hg : isGood (g : Int) = true) : Fine 0 (SM.empty k0 k1 (.string ⟨#[]⟩) g) := by
  obtain ⟨h1, h2⟩ := inv_empty k0 k1 (.string ⟨#[]⟩) g hg (isV_string _)
  exact ⟨h1, Nat.le_refl _, fun k s hk => absurd hk (h2 k _)⟩
theorem empty_has (k0 k1 : Int) (g : Nat) (hg : isGood (g : Int) = true) (k s : ByteArray) : ¬ (SM.empty k0 k1 (.string ⟨#[]⟩) g).Has k (.string s) := (inv_empty k0 k1 (.string ⟨#[]⟩) g hg (isV_string _)).2 k _
theorem Fine.few {M : SM} {c : Nat} (h : Fine c M) (hc : c ≤ 65536) : FewP M.img := by
  refine ⟨by rw [img_len h.inv]; have := h.n; omega, fun p hp => ?_⟩
  obtain ⟨k, s⟩ := p
  exact h.sz k s ((img_mem h.inv).1 hp)

/-- The value of the last pair with a key. -/
def lastV : List (ByteArray × ByteArray) → ByteArray → Option ByteArray
  | [], _ => none
  | p :: l, k => match lastV l k with
    | some s => some s
    | none => if p.1 = k then some p.2 else none
theorem has_putL : ∀ (l : List (ByteArray × ByteArray)) {M : SM} {c : Nat}, Fine c M → c + l.length ≤ 2000 → (∀ p ∈ l, p.1.size ≤ 131072 ∧ p.2.size ≤ 131072) → ∀ k s, (putL M l).Has k (.string s) ↔ lastV l k = some s ∨ (lastV l k = none ∧ M.Has k (.string s))
  | [], M, c, h, _, _, k, s => by simp [putL, lastV]
  | p :: l, M, c, h, hc, hs, k, s => by
    rw [List.length_cons] at hc
    have ih := has_putL l (fine_putP h (by omega) p (hs p List.mem_cons_self)) (by omega) (fun q hq => hs q (List.mem_cons_of_mem _ hq)) k s
    show (putL (putP M p) l).Has k (.string s) ↔ _
    rw [ih, has_putP h (by omega) p (hs p List.mem_cons_self).1]
    cases hl : lastV l k with
    | some t => simp [lastV, hl]
    | none =>
      by_cases hk : p.1 = k
      · subst hk
        simp [lastV, hl, eq_comm]
      · have hk' : k ≠ p.1 := fun e => hk e.symm
        simp [lastV, hl, hk, hk']
theorem lastV_none : ∀ {l : List (ByteArray × ByteArray)} {k : ByteArray}, lastV l k = none ↔ k ∉ l.map Prod.fst
  | [], k => by simp [lastV]
  | p :: l, k => by
    have ih := lastV_none (l := l) (k := k)
    rw [List.map_cons, List.mem_cons, not_or]
    cases hl : lastV l k with
    | some t =>
      have : ¬ k ∉ l.map Prod.fst := fun h => by rw [ih.2 h] at hl; cases hl
      simp only [lastV, hl]
      constructor
      · intro h; cases h
      · intro h; exact absurd h.2 this
    | none =>
      have := ih.1 hl
      by_cases hk : p.1 = k
      · subst hk; simp [lastV, hl]
      · have hk' : k ≠ p.1 := fun e => hk e.symm
        simp only [lastV, hl, if_neg hk]
        exact ⟨fun _ => ⟨hk', this⟩, fun _ => by simp⟩
theorem lastV_mem : ∀ {l : List (ByteArray × ByteArray)} (_ : (l.map Prod.fst).Nodup) {k s : ByteArray}, lastV l k = some s ↔ (k, s) ∈ l
  | [], _, k, s => by simp [lastV]
  | p :: l, hn, k, s => by
    rw [List.map_cons, List.nodup_cons] at hn
    have ih := lastV_mem hn.2 (k := k) (s := s)
    obtain ⟨pk, pv⟩ := p
    rw [List.mem_cons, Prod.mk.injEq]
    by_cases hk : pk = k
    · subst hk
      have hl := lastV_none.2 hn.1
      simp only [lastV, hl]
      constructor
      · intro h; simp at h; exact .inl ⟨by simp, h.symm⟩
      · rintro (⟨_, rfl⟩ | h)
        · simp
        · exact absurd (List.mem_map.2 ⟨_, h, rfl⟩) hn.1
    · have hk' : k ≠ pk := fun e => hk e.symm
      rw [← ih]
      cases hl : lastV l k with
      | some t => simp [lastV, hl, hk']
      | none => simp [lastV, hl, hk, hk']
/-- Pairs that rise, put into a new map, are its pairs. -/
theorem img_putL {l : List (ByteArray × ByteArray)} (hr : Rise l) (hl : l.length ≤ 2000) (hs : ∀ p ∈ l, p.1.size ≤ 131072 ∧ p.2.size ≤ 131072) (k0 k1 : Int) (g : Nat) (hg : isGood (g : Int) = true) : (putL (SM.empty k0 k1 (.string ⟨#[]⟩) g) l).img = l := by
  have hf := fine_empty k0 k1 g hg
  refine img_of (fine_putL l hf (by omega) hs).inv hr fun k s => ?_
  rw [has_putL l hf (by omega) hs, lastV_mem hr.nodup]
  constructor
  · rintro (h | ⟨_, h⟩)
    · exact h
    · exact absurd h (empty_has k0 k1 g hg k s)
  · exact .inl
end Go.Proofs.YthlghokgknkpaaaGreatDoor

/-
  Contracts: '==' and '!=' of two pairs; slices.Equal and corbelref07.Same of pairs; image.Same of whatever Pairs tells.
-/
namespace Go.Proofs.YthlghokgknkpaaaGreatDoor
open Go.RowKit Go.Shelf Go.Lib

theorem toList_ne {a b : ByteArray} : a.toList = b.toList ↔ a = b := ⟨data_inj, fun h => by rw [h]⟩
theorem eqlP : EqlAt Tryz.prog 35 (fun x : ByteArray × ByteArray => .agg (encP x).toArray) (fun x y => decide (x = y)) := by
  refine ⟨fun x y w => ?_, GuardAt.agg _ (by kernel_rfl)⟩
  have u9 := Tryz.underlying9
  have a9 := Tryz.isAgg9
  have z9 := Tryz.sizeOf9
  have hS : Tryz.prog.underlying 35 = some (.struct (Tryz.prog.fieldsOf 35)) := by kernel_rfl
  have hp : Tryz.prog.stoodInHeld 35 = false := by kernel_rfl
  obtain ⟨xk, xv⟩ := x
  obtain ⟨yk, yv⟩ := y
  simp only [encP]
  rw [run_eql_struct, show (10000 : Nat) = 9999 + 1 from rfl, run_equalIn_agg w 9999 35 _ _ hS hp]
  simp only [Program.fieldsOf, Tryz.underlying35]
  go_simp
  by_cases h1 : xk = yk <;> by_cases h2 : xv = yv <;> simp [h1, h2, toList_ne]
theorem neqP : NeqAt Tryz.prog 35 (fun x : ByteArray × ByteArray => .agg (encP x).toArray) (fun x y => decide (x = y)) := by
  refine ⟨fun x y w => ?_, eqlP.2⟩
  have h := eqlP.1 x y w
  rw [run_eql_struct] at h
  rw [run_neq_struct]
  generalize Sem.run Tryz.prog (Op.equalIn 10000 35 (.agg (encP x).toArray) (.agg (encP y).toArray)) w = r at h ⊢
  cases r with
  | ok b w' =>
    simp only [Result.andThen, Result.ok.injEq, Value.bool.injEq] at h ⊢
    obtain ⟨h1, h2⟩ := h
    exact ⟨by rw [h1], h2⟩
  | _ => cases h

set_option maxRecDepth 100000 in
set_option maxHeartbeats 2000000 in
theorem equal_any (u v : Value) (xs ys : List (ByteArray × ByteArray)) (w : World) (hx : HasP w u xs) (hy : HasP w v ys) (lx : xs.length ≤ 1099511627776) (_ly : ys.length ≤ 1099511627776) :
    Calls Tryz.prog 61 #[u, v] w fun e w' => e = .returned (.bool (decide (xs = ys))) ∧ Below w.heap.size w w' := by
  have hne : ∀ (a b : ByteArray × ByteArray) (W : World), Sem.run Tryz.prog (binOp .neq 35 (.agg #[.string a.1, .string a.2]) (.agg #[.string b.1, .string b.2])) W = .ok (.bool (!decide (a = b))) W := neqP.1
  have hgd : ∀ (op : BinOp) (o1 o2 : Operand) (a b : ByteArray × ByteArray) (W : World), Sem.run Tryz.prog (eqGuard op 35 o1 o2 (.agg #[.string a.1, .string a.2]) (.agg #[.string b.1, .string b.2])) W = .ok () W := neqP.2
  have hmix : Tryz.prog.follows Departure.mixedOrders = true := by kernel_rfl
  obtain ⟨pu, cu, rfl, -, -, -⟩ := id hx
  obtain ⟨pv, cv, rfl, -, -, -⟩ := id hy
  by_cases hnm : xs.length = ys.length
  · have hX : Hid (HasP w (.slice pu xs.length cu) xs) := hx
    have hY : Hid (HasP w (.slice pv xs.length cv) ys) := by rw [Hid, hnm]; exact hy
    have HL : Hid (xs.length = ys.length) := hnm
    rw [← hnm]
    clear hx hy hnm
    go_enter Tryz.func61, Tryz.ntmps61
    go_wp2
    go_loopg [13] xs.length (fun g s13 wr => ∃ kk q : Nat, kk ≤ xs.length ∧ xs.length - kk ≤ g ∧ s13 = .int .i64 (kk : Nat) ∧ wr = w.drewN q ∧ Hid (xs.take kk = ys.take kk))
    case atStart => exact ⟨0, 0, Nat.zero_le _, by omega, rfl, rfl, rfl⟩
    case round =>
      obtain ⟨kk, q, hkk, hg, rfl, rfl, A⟩ := hrel
      by_cases hlt : kk < xs.length
      · obtain ⟨b1, o1, rfl, hb1, hc1, -, k1, k2⟩ := hX.out.at (j := kk) hlt
        obtain ⟨b2, o2, rfl, hb2, hc2, -, k3, k4⟩ := hY.out.at (j := kk) hlt
        have T1 : Hid (xs.take kk ++ [xs.getD kk default] = xs.take (kk + 1)) := ptake_snoc hlt
        have T2 : Hid (ys.take kk ++ [ys.getD kk default] = ys.take (kk + 1)) := ptake_snoc (by rw [← HL.out]; exact hlt)
        generalize xs.getD kk default = x at *
        generalize ys.getD kk default = y at *
        obtain ⟨xk, xv⟩ := x
        obtain ⟨yk, yv⟩ := y
        dsimp only at k1 k2 k3 k4
        have hne1 := fun W => hne (xk, xv) (yk, yv) W
        have hgd1 := fun op o1 o2 W => hgd op o1 o2 (xk, xv) (yk, yv) W
        clear hne hgd
        dsimp only at hne1 hgd1
        have g1 : (w.drewN q).cell? ⟨b1, o1 + kk * 2, none⟩ = some (.string xk) := k1
        have g2 : (w.drewN q).cell? ⟨b1, o1 + kk * 2 + 1, none⟩ = some (.string xv) := k2
        have g3 : (w.drewN q).cell? ⟨b2, o2 + kk * 2, none⟩ = some (.string yk) := k3
        have g4 : (w.drewN q).cell? ⟨b2, o2 + kk * 2 + 1, none⟩ = some (.string yv) := k4
        clear k1 k2 k3 k4
        generalize hwq : w.drewN q = wq at g1 g2 g3 g4 ⊢
        have HW : Hid (w.drewN q = wq) := hwq
        clear hwq
        by_cases hxy : (xk, xv) = (yk, yv)
        · have hd : decide ((xk, xv) = (yk, yv)) = true := decide_eq_true hxy
          rw [hd] at hne1
          have HXY : Hid ((xk, xv) = (yk, yv)) := hxy
          clear hxy hd
          go_wp2_with fail
          go_quiet_o (fail)
          go_wp2
          go_roundg (xs.length - (kk + 1))
          case measure => omega
          case rel => exact ⟨kk + 1, q + nq, by omega, Nat.le_refl _, by go_num, by rw [← HW.out, World.drewN_drewN], by rw [Hid, ← T1.out, ← T2.out, A.out, HXY.out]⟩
        · have hd : decide ((xk, xv) = (yk, yv)) = false := decide_eq_false hxy
          rw [hd] at hne1
          have HXY : Hid ((xk, xv) ≠ (yk, yv)) := hxy
          clear hxy hd
          go_wp2_with fail
          go_quiet_o (fail)
          go_wp2
          go_ret
          refine ⟨?_, by rw [← HW.out, World.drewN_drewN]; exact below_drewN (Below.refl _ _) _⟩
          rw [decide_eq_false]
          · rfl
          · rintro rfl
            have h2 := T2.out.trans T1.out.symm
            simp at h2
            exact HXY.out (by rw [Prod.mk.injEq]; exact ⟨h2.1.symm, h2.2.symm⟩)
      · have hk : kk = xs.length := by omega
        have hA : Hid (xs = ys) := by
          have := A.out
          rw [hk, List.take_length, HL.out, List.take_length] at this
          exact this
        have hd : Hid (decide (xs = ys) = true) := decide_eq_true hA.out
        subst hk
        clear hA A HL
        go_wp2
        go_ret
        rw [hd.out]
        exact ⟨rfl, below_drewN (Below.refl _ _) _⟩
  · have hd : Hid (decide (xs = ys) = false) := decide_eq_false fun e => hnm (by rw [e])
    have hnm' : ¬ (xs.length : Int) = (ys.length : Int) := by omega
    clear hx hy
    go_enter Tryz.func61, Tryz.ntmps61
    go_wp2
    go_ret
    rw [hd.out]
    exact ⟨rfl, Below.refl _ _⟩

set_option maxRecDepth 100000 in
set_option maxHeartbeats 2000000 in
theorem rsame_any (u v : Value) (xs ys : List (ByteArray × ByteArray)) (w : World) (hx : HasP w u xs) (hy : HasP w v ys) (lx : xs.length ≤ 1099511627776) (_ly : ys.length ≤ 1099511627776) :
    Calls Tryz.prog 15 #[u, v] w fun e w' => e = .returned (.bool (decide (xs = ys))) ∧ Below w.heap.size w w' := by
  have hne : ∀ (a b : ByteArray × ByteArray) (W : World), Sem.run Tryz.prog (binOp .neq 35 (.agg #[.string a.1, .string a.2]) (.agg #[.string b.1, .string b.2])) W = .ok (.bool (!decide (a = b))) W := neqP.1
  have hgd : ∀ (op : BinOp) (o1 o2 : Operand) (a b : ByteArray × ByteArray) (W : World), Sem.run Tryz.prog (eqGuard op 35 o1 o2 (.agg #[.string a.1, .string a.2]) (.agg #[.string b.1, .string b.2])) W = .ok () W := neqP.2
  have hmix : Tryz.prog.follows Departure.mixedOrders = true := by kernel_rfl
  obtain ⟨pu, cu, rfl, -, -, -⟩ := id hx
  obtain ⟨pv, cv, rfl, -, -, -⟩ := id hy
  by_cases hnm : xs.length = ys.length
  · have hX : Hid (HasP w (.slice pu xs.length cu) xs) := hx
    have hY : Hid (HasP w (.slice pv xs.length cv) ys) := by rw [Hid, hnm]; exact hy
    have HL : Hid (xs.length = ys.length) := hnm
    rw [← hnm]
    clear hx hy hnm
    go_enter Tryz.func15, Tryz.ntmps15
    go_wp2
    go_loopg [13] xs.length (fun g s13 wr => ∃ kk q : Nat, kk ≤ xs.length ∧ xs.length - kk ≤ g ∧ s13 = .int .i64 (kk : Nat) ∧ wr = w.drewN q ∧ Hid (xs.take kk = ys.take kk))
    case atStart => exact ⟨0, 0, Nat.zero_le _, by omega, rfl, rfl, rfl⟩
    case round =>
      obtain ⟨kk, q, hkk, hg, rfl, rfl, A⟩ := hrel
      by_cases hlt : kk < xs.length
      · obtain ⟨b1, o1, rfl, hb1, hc1, -, k1, k2⟩ := hX.out.at (j := kk) hlt
        obtain ⟨b2, o2, rfl, hb2, hc2, -, k3, k4⟩ := hY.out.at (j := kk) hlt
        have T1 : Hid (xs.take kk ++ [xs.getD kk default] = xs.take (kk + 1)) := ptake_snoc hlt
        have T2 : Hid (ys.take kk ++ [ys.getD kk default] = ys.take (kk + 1)) := ptake_snoc (by rw [← HL.out]; exact hlt)
        generalize xs.getD kk default = x at *
        generalize ys.getD kk default = y at *
        obtain ⟨xk, xv⟩ := x
        obtain ⟨yk, yv⟩ := y
        dsimp only at k1 k2 k3 k4
        have hne1 := fun W => hne (xk, xv) (yk, yv) W
        have hgd1 := fun op o1 o2 W => hgd op o1 o2 (xk, xv) (yk, yv) W
        clear hne hgd
        dsimp only at hne1 hgd1
        have g1 : (w.drewN q).cell? ⟨b1, o1 + kk * 2, none⟩ = some (.string xk) := k1
        have g2 : (w.drewN q).cell? ⟨b1, o1 + kk * 2 + 1, none⟩ = some (.string xv) := k2
        have g3 : (w.drewN q).cell? ⟨b2, o2 + kk * 2, none⟩ = some (.string yk) := k3
        have g4 : (w.drewN q).cell? ⟨b2, o2 + kk * 2 + 1, none⟩ = some (.string yv) := k4
        clear k1 k2 k3 k4
        generalize hwq : w.drewN q = wq at g1 g2 g3 g4 ⊢
        have HW : Hid (w.drewN q = wq) := hwq
        clear hwq
        by_cases hxy : (xk, xv) = (yk, yv)
        · have hd : decide ((xk, xv) = (yk, yv)) = true := decide_eq_true hxy
          rw [hd] at hne1
          have HXY : Hid ((xk, xv) = (yk, yv)) := hxy
          clear hxy hd
          go_wp2_with fail
          go_quiet_o (fail)
          go_wp2
          go_roundg (xs.length - (kk + 1))
          case measure => omega
          case rel => exact ⟨kk + 1, q + nq, by omega, Nat.le_refl _, by go_num, by rw [← HW.out, World.drewN_drewN], by rw [Hid, ← T1.out, ← T2.out, A.out, HXY.out]⟩
        · have hd : decide ((xk, xv) = (yk, yv)) = false := decide_eq_false hxy
          rw [hd] at hne1
          have HXY : Hid ((xk, xv) ≠ (yk, yv)) := hxy
          clear hxy hd
          go_wp2_with fail
          go_quiet_o (fail)
          go_wp2
          go_ret
          refine ⟨?_, by rw [← HW.out, World.drewN_drewN]; exact below_drewN (Below.refl _ _) _⟩
          rw [decide_eq_false]
          · rfl
          · rintro rfl
            have h2 := T2.out.trans T1.out.symm
            simp at h2
            exact HXY.out (by rw [Prod.mk.injEq]; exact ⟨h2.1.symm, h2.2.symm⟩)
      · have hk : kk = xs.length := by omega
        have hA : Hid (xs = ys) := by
          have := A.out
          rw [hk, List.take_length, HL.out, List.take_length] at this
          exact this
        have hd : Hid (decide (xs = ys) = true) := decide_eq_true hA.out
        subst hk
        clear hA A HL
        go_wp2
        go_ret
        rw [hd.out]
        exact ⟨rfl, below_drewN (Below.refl _ _) _⟩
  · have hd : Hid (decide (xs = ys) = false) := decide_eq_false fun e => hnm (by rw [e])
    have hnm' : ¬ (xs.length : Int) = (ys.length : Int) := by omega
    clear hx hy
    go_enter Tryz.func15, Tryz.ntmps15
    go_wp2
    go_ret
    rw [hd.out]
    exact ⟨rfl, Below.refl _ _⟩

end Go.Proofs.YthlghokgknkpaaaGreatDoor

/-
  Contracts: slices.Clone of pairs; image.Range of whatever Pairs tells.
-/
namespace Go.Proofs.YthlghokgknkpaaaGreatDoor
open Go.RowKit Go.Shelf

shelf_lay_g SlLaysE0.n41 Slgn 41 at Tryz 53 as cloneL

theorem clone_any (b o n c : Nat) (l : List (ByteArray × ByteArray)) (w : World) (h : HasP w (.slice (some ⟨b, o, none⟩) n c) l) (h0 : 0 < n) (hn : n ≤ 1099511627776) :
    Calls Tryz.prog 53 #[.slice (some ⟨b, o, none⟩) n c] w fun e w' => ∃ v, e = .returned v ∧ OwnsP w' w.heap.size v l ∧ Below w.heap.size w w' := by
  obtain ⟨i1, hi1, hz1, hs1, hb1⟩ := info_parts infoP
  obtain ⟨p, c', e, h1, _, h3⟩ := h
  simp only [Value.slice.injEq] at e
  obtain ⟨rfl, rfl, rfl⟩ := e
  obtain ⟨b', o', e, hlt, hc⟩ := h3 h0
  simp only [Option.some.injEq, Addr.mk.injEq] at e
  obtain ⟨rfl, rfl, _⟩ := e
  have hcon := AnyE.slices_Clone cloneL i1 (.agg #[.string ⟨#[]⟩, .string ⟨#[]⟩]) 2 32 hi1 hz1 hs1 hb1 rfl (by decide) Tryz.sizeOf35 b o l.length c (pairsV l) w (pairsV_length l) (by unfold maxLen; omega) (by omega) hc (pairsV_one l)
  change Calls Tryz.prog 53 _ _ _ at hcon
  refine hcon.mono ?_
  rintro e w' ⟨v', rfl, ho, _, hb⟩
  exact ⟨v', rfl, ho, hb⟩

theorem not_empty {u : ByteArray} (hu : u ≠ ⟨#[]⟩) : u.toList.isEmpty = false := by
  cases h : u.toList.isEmpty with
  | false => rfl
  | true =>
    have h' : u.toList = [] := by simpa using h
    refine absurd (data_inj (b := ⟨#[]⟩) (h'.trans ?_)) hu
    rw [Lib.toList_data]

set_option maxRecDepth 100000 in
set_option maxHeartbeats 2000000 in
theorem range_of (p : Option Addr) (l : List (ByteArray × ByteArray)) (f u : ByteArray) (n : Int) (w : World) (hP : Calls Tryz.prog 16 #[.pointer p] w fun e w' => ∃ v, e = .returned v ∧ OwnsP w' w.heap.size v l ∧ Below w.heap.size w w')
    (hr : Rise l) (hl : l.length ≤ 1073741824) (hn : -9223372036854775808 ≤ n ∧ n ≤ 9223372036854775807) :
    Calls Tryz.prog 17 #[.pointer p, .string f, .string u, .int .i64 n] w fun e w' => ∃ v, e = .returned v ∧ OwnsP w' w.heap.size v (cutL l f u n) ∧ Below w.heap.size w w' := by
  have hPf := plc_le l f
  have hPu := plc_le l u
  have hEl := endP_le l u
  have HE : Hid (endP l u = if u = ⟨#[]⟩ then l.length else plc l u) := rfl
  have Hc : Hid (∀ c : Nat, (c : Int) = min ((endP l u : Int) - plc l f) n → (l.drop (plc l f)).take c = cutL l f u n) := fun c hc => cut_prog hr f u n c hc
  have Hn : Hid (min ((endP l u : Int) - plc l f) n < 1 → cutL l f u n = []) := cut_none hr f u n
  have Hr : Hid (Rise l) := hr
  clear hr
  go_enter Tryz.func17, Tryz.ntmps17
  go_wp2_with fail
  refine hP.mono ?_
  rintro e w1 ⟨v, rfl, ho, hb1⟩
  obtain ⟨pp, cc, rfl, hlc, hnone, _⟩ := id ho.has
  have hplc1 := place_any pp l.length cc l f w1 ho.has Hr.out (by omega)
  go_wp2_with fail
  refine hplc1.mono ?_
  rintro e w2 ⟨rfl, hb2⟩
  have ho2 := ho.below hb2 (Nat.le_refl _)
  have hplc2 := place_any pp l.length cc l u w2 ho2.has Hr.out (by omega)
  clear hplc1 hP ho
  by_cases hu : u = ⟨#[]⟩
  · subst hu
    have HE0 : Hid (endP l ⟨#[]⟩ = l.length) := by rw [Hid, HE.out, if_pos rfl]
    have hbel := hb1.trans (hb2.mono hb1.size)
    have hmin : min (((l.length : Nat) : Int) - ((plc l f : Nat) : Int)) n = min ((endP l ⟨#[]⟩ : Int) - plc l f) n := by rw [HE0.out]
    generalize hm : min ((endP l ⟨#[]⟩ : Int) - plc l f) n = m at *
    have Hm : Hid (min ((endP l ⟨#[]⟩ : Int) - plc l f) n = m) := hm
    have hmE : Hid (m ≤ ((l.length : Nat) : Int) - ((plc l f : Nat) : Int) ∧ m ≤ n) := by rw [Hid, ← hmin]; omega
    clear hm
    by_cases hc : m < 1
    · go_wp2
      go_ret
      rw [Hn.out hc]
      exact ⟨_, rfl, OwnsP.nil0 _ _, hbel⟩
    · obtain ⟨C, rfl⟩ := Int.eq_ofNat_of_zero_le (show 0 ≤ m by omega)
      have hCb := hmE.out
      have hC1 : plc l f + C ≤ l.length := by omega
      obtain ⟨bb, oo, rfl, hbb, -, -, -, -⟩ := ho2.has.at (j := 0) (by omega)
      have hcut := ho2.has.cut (plc l f) C hC1
      rw [Hc.out C rfl] at hcut
      have hcl := clone_any bb (oo + plc l f * 2) C (cc - plc l f) _ w2 hcut (by omega) (by omega)
      clear hcut Hc Hn HE HE0 Hm hmE hCb
      generalize plc l f = F at *
      have hi1 : ((F : Int) + (C : Int)).toNat - F = C := by omega
      have hi2 : (F : Int) + C ≤ cc := by omega
      go_wp2_with fail
      refine hcl.mono ?_
      rintro e w9 ⟨v9, rfl, ho9, hb9⟩
      go_wp2
      go_ret
      exact ⟨_, rfl, ho9.mono (hbel).size, (hbel).trans (hb9.mono (hbel).size)⟩
  · have HE0 : Hid (endP l u = plc l u) := by rw [Hid, HE.out, if_neg hu]
    have hu2 : u.toList.isEmpty = false := not_empty hu
    go_wp2_with fail
    refine hplc2.mono ?_
    rintro e w3 ⟨rfl, hb3⟩
    have ho3 := ho2.below hb3 (Nat.le_refl _)
    have hbel := (hb1.trans (hb2.mono hb1.size)).trans (hb3.mono (hb1.trans (hb2.mono hb1.size)).size)
    clear hplc2
    have hmin : min (((plc l u : Nat) : Int) - ((plc l f : Nat) : Int)) n = min ((endP l u : Int) - plc l f) n := by rw [HE0.out]
    generalize hm : min ((endP l u : Int) - plc l f) n = m at *
    have Hm : Hid (min ((endP l u : Int) - plc l f) n = m) := hm
    have hmE : Hid (m ≤ ((plc l u : Nat) : Int) - ((plc l f : Nat) : Int) ∧ m ≤ n) := by rw [Hid, ← hmin]; omega
    clear hm
    by_cases hc : m < 1
    · go_wp2
      go_ret
      rw [Hn.out hc]
      exact ⟨_, rfl, OwnsP.nil0 _ _, hbel⟩
    · obtain ⟨C, rfl⟩ := Int.eq_ofNat_of_zero_le (show 0 ≤ m by omega)
      have hCb := hmE.out
      have hC1 : plc l f + C ≤ l.length := by omega
      obtain ⟨bb, oo, rfl, hbb, -, -, -, -⟩ := ho3.has.at (j := 0) (by omega)
      have hcut := ho3.has.cut (plc l f) C hC1
      rw [Hc.out C rfl] at hcut
      have hcl := clone_any bb (oo + plc l f * 2) C (cc - plc l f) _ w3 hcut (by omega) (by omega)
      clear hcut Hc Hn HE HE0 Hm hmE hCb
      generalize plc l f = F at *
      have hi1 : ((F : Int) + (C : Int)).toNat - F = C := by omega
      have hi2 : (F : Int) + C ≤ cc := by omega
      go_wp2_with fail
      refine hcl.mono ?_
      rintro e w9 ⟨v9, rfl, ho9, hb9⟩
      go_wp2
      go_ret
      exact ⟨_, rfl, ho9.mono (hbel).size, (hbel).trans (hb9.mono (hbel).size)⟩
end Go.Proofs.YthlghokgknkpaaaGreatDoor
