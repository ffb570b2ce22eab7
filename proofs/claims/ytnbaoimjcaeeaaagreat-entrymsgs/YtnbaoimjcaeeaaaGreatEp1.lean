/-
  Rows of entries that the call made; contracts: entry.list at entries.
-/
import Derived.Test.YtnbaoimjcaeeaaaGreatEo6To
namespace Go.Proofs.YtnbaoimjcaeeaaaGreat
open Go.RowKit Go.Shelf

/-- The cells of entries, one behind the other. -/
def entsV (l : List EntV) : List Value := (l.map fun x => x.arr.toList).flatten
theorem entsV_cons (x : EntV) (l : List EntV) : entsV (x :: l) = x.arr.toList ++ entsV l := by simp [entsV]
theorem entsV_append (l m : List EntV) : entsV (l ++ m) = entsV l ++ entsV m := by simp [entsV]
theorem entsV_one (x : EntV) : entsV [x] = x.arr.toList := by simp [entsV]
theorem arr_len (x : EntV) : x.arr.toList.length = 13 := rfl
theorem entsV_len : ∀ l : List EntV, (entsV l).length = l.length * 13
  | [] => rfl
  | x :: l => by rw [entsV_cons, List.length_append, entsV_len l, arr_len, List.length_cons]; omega
theorem entsV_at : ∀ {l : List EntV} {i k : Nat}, i < l.length → k < 13 → (entsV l)[i * 13 + k]? = (l.getD i noEV).arr[k]?
  | [], _, _, h, _ => by cases h
  | x :: l, 0, k, _, hk => by
    rw [entsV_cons, List.getElem?_append_left (by rw [arr_len]; omega), List.getD_cons_zero, Nat.zero_mul, Nat.zero_add, Array.getElem?_toList]
  | x :: l, i + 1, k, h, hk => by
    rw [entsV_cons, List.getElem?_append_right (by rw [arr_len]; omega), List.getD_cons_succ, arr_len, show (i + 1) * 13 + k - 13 = i * 13 + k by omega]
    exact entsV_at (by simpa using h) hk
theorem entsV_cell (l : List EntV) : ∀ u ∈ entsV l, u.oneCell' = true := by
  intro u hu
  unfold entsV at hu
  rw [List.mem_flatten] at hu
  obtain ⟨a, ha, hu⟩ := hu
  obtain ⟨x, _, rfl⟩ := List.mem_map.1 ha
  simp only [EntV.arr, List.mem_cons, List.not_mem_nil, or_false] at hu
  rcases hu with rfl | rfl | rfl | rfl | rfl | rfl | rfl | rfl | rfl | rfl | rfl | rfl | rfl <;> rfl

/-- Two rows of unlike kinds lie apart. -/
theorem rows_apart {w : World} {B B' : Nat} {e e' : TypeId} {s s' n n' : Nat} {v v' : Value} {xs xs' : List Value} (h : w.ownsRow B e s v n xs) (h' : w.ownsRow B' e' s' v' n' xs') (hne : e ≠ e') : v.ownBlock = none ∨ v.ownBlock ≠ v'.ownBlock := by
  rcases h.2 with ⟨rfl, _⟩ | ⟨g, cap, cur, rfl, _, hg, _⟩
  · exact .inl rfl
  · right
    rcases h'.2 with ⟨rfl, _⟩ | ⟨g', cap', cur', rfl, _, hg', _⟩
    · intro e; cases e
    · intro e
      have e' : g = g' := Option.some.inj e
      subst e'
      rw [hg] at hg'
      have := Option.some.inj hg'
      simp only [Obj.cells.injEq] at this
      exact hne this.2.1
theorem OwnsE.app {w w' : World} {B B' : Nat} {x : EntV} {u : Value} {s n : Nat} {xs : List Value} (h : OwnsE w B x) (hu : w.ownsRow B' 30 s u n xs) (hg : w.grownBy w' u.ownBlock) : OwnsE w' B x := by
  refine ⟨h.i, h.t, h.k, h.c, ⟨?_, ?_, h.f.iu, h.f.iv, h.f.lu, h.f.lv⟩⟩
  · exact World.ownsRow.kept h.f.u hg (rows_apart h.f.u hu (by decide))
  · exact World.ownsRow.kept h.f.v hg (rows_apart h.f.v hu (by decide))
structure OwnsEs (w : World) (B : Nat) (s : Sl10) (es : List EntV) : Prop where
  row : w.ownsRow B 30 13 (.slice s.p s.n s.c) es.length (entsV es)
  all : ∀ e ∈ es, OwnsE w B e
theorem OwnsEs.fits {w : World} {B : Nat} {s : Sl10} {es : List EntV} (h : OwnsEs w B s es) : HasE w s es := by
  obtain ⟨p, n, c⟩ := s
  rcases h.row.2 with ⟨hv, hn⟩ | ⟨g, cap, cur, hv, hB, hg, hnc, _, _, _⟩
  · simp only [Value.slice.injEq] at hv
    obtain ⟨rfl, rfl, rfl⟩ := hv
    exact ⟨hn, Nat.le_refl _, fun _ => rfl, fun h0 => absurd h0 (Nat.lt_irrefl 0), fun e he => (h.all e he).fits⟩
  · simp only [Value.slice.injEq] at hv
    obtain ⟨rfl, rfl, rfl⟩ := hv
    refine ⟨rfl, hnc, (fun h0 => by cases h0), fun _ => ⟨g, 0, rfl, (Array.getElem?_eq_some_iff.1 hg).1, fun i hi j hj => ?_⟩, fun e he => (h.all e he).fits⟩
    have hi' : i < es.length := hi
    have hk := entsV_at hi' hj
    have hjj : j < ((es.getD i noEV).arr).size := hj
    rw [Array.getElem?_eq_getElem hjj] at hk ⊢
    have hc := World.ownsRow.cells h.row (g := g) rfl (i * 13 + j) _ hk
    rw [Addr.add_lit] at hc
    rw [Nat.zero_add] at hc ⊢
    exact hc
theorem OwnsEs.kept {w w' : World} {B r : Nat} {s : Sl10} {es : List EntV} (h : OwnsEs w B s es) (hg : w.grownBy w' (some r)) (hr : r < B) : OwnsEs w' B s es := by
  refine ⟨World.ownsRow.kept h.row hg ?_, fun e he => (h.all e he).kept hg hr⟩
  cases hv : Value.ownBlock (.slice s.p s.n s.c) with
  | none => exact .inl rfl
  | some k =>
    have := (World.ownsRow.lt h.row k hv).1
    exact .inr (fun e => by cases e; omega)
theorem OwnsEs.cell {w : World} {B b : Nat} {s : Sl10} {es : List EntV} (h : OwnsEs w B s es) (hb : b < B) (i : Nat) (v : Value) : OwnsEs (w.setCell ⟨b, i, none⟩ v) B s es := h.kept (grown_set w b i v) hb
theorem row_below {w w' : World} {B B' : Nat} {e : TypeId} {s n : Nat} {v : Value} {xs : List Value} (h : w.ownsRow B e s v n xs) (hb : Below B' w w') (hB : w.heap.size ≤ B') : w'.ownsRow B e s v n xs := by
  refine ⟨h.1, ?_⟩
  rcases h.2 with hn | ⟨g, cap, cur, rfl, hb1, hg, rest⟩
  · exact .inl hn
  · refine .inr ⟨g, cap, cur, rfl, hb1, ?_, rest⟩
    rw [hb.block g (Nat.lt_of_lt_of_le (Array.getElem?_eq_some_iff.1 hg).1 hB)]
    exact hg
theorem OwnsEs.below {w w' : World} {B : Nat} {s : Sl10} {es : List EntV} (h : OwnsEs w B s es) (hb : Below w.heap.size w w') : OwnsEs w' B s es := ⟨row_below h.row hb (Nat.le_refl _), fun e he => (h.all e he).below hb⟩
theorem OwnsEs.mono {w : World} {B B' : Nat} {s : Sl10} {es : List EntV} (h : OwnsEs w B s es) (hB : B' ≤ B) : OwnsEs w B' s es := ⟨row_mono h.row hB, fun e he => (h.all e he).mono hB⟩
theorem OwnsEs.nil (w : World) (B : Nat) : OwnsEs w B nilS10 [] := ⟨World.ownsRow_nil w B _ 13, fun _ h => by cases h⟩
theorem new_row (X : World) (a : Array Value) (t : TypeId) : ∀ j x, a.toList[j]? = some x → (X.alloc (.cells a t)).cell? ((⟨X.heap.size, 0, none⟩ : Addr).add j) = some x := by
  intro j x hj
  rw [Addr.add_lit, Nat.zero_add, box_cell (heap_alloc_new X (.cells a t)) j, ← Array.getElem?_toList]
  exact hj
theorem infoE10 : (Tryz.prog.info? 30).map (fun i => (i.zero, i.size, i.bytes)) = some (some (.agg noEV.arr), 13, 168) := by kernel_rfl

theorem grown_belowE {w a b : World} {row : Option Nat} (h : w.grownBy a row) (hb : Below w.heap.size a b) : w.grownBy b row :=
  ⟨hb.os.trans h.os, hb.tape.trans h.tape, hb.output.trans h.output, Nat.le_trans h.size hb.size, fun k hk hr => (hb.block k hk).trans (h.block k hk hr)⟩

/-- The list of entries, as the program reads it. -/
def rdEs (S : St) : List Ent10 × St := pents10 (cnt10 16 S).1 (cnt10 16 S).2
theorem pents10_len (T : St) : ∀ n, (pents10 n T).1.length = n
  | 0 => rfl
  | n + 1 => by rw [pents10, List.length_append, pents10_len T n]; rfl

set_option maxRecDepth 100000 in
set_option maxHeartbeats 3000000 in
theorem listE_any (w0 w : World) (rb : Nat) (S : St) (h : Rdr w0 w rb S) :
    Calls Tryz.prog 81 #[.pointer (some ⟨rb, 0, none⟩), .int .i64 16, .func (.func 28) #[.pointer (some ⟨rb, 0, none⟩)] #[]] w fun e w' => ∃ (p : Option Addr) (n c : Nat) (es : List EntV), e = .returned (.slice p n c) ∧ OwnsEs w' w.heap.size ⟨p, n, c⟩ es ∧ es.map EntV.e = (rdEs S).1 ∧ es.length ≤ 16 ∧ Left10 w0 w rb (rdEs S).2 w' := by
  obtain ⟨i1, hi1, hz1, hs1, hby1⟩ := info_parts infoE10
  obtain ⟨hn1, hn2⟩ := cnt_of 16 (by decide) S
  have kc := h.count 16 (by decide)
  rw [hn1] at kc
  have HL : Hid (rdEs S = pents10 (cnt10 16 S).1 (cnt10 16 S).2) := rfl
  have hrl := h.lt
  generalize hN : (cnt10 16 S).1 = N at *
  generalize (cnt10 16 S).2 = T at *
  generalize rdEs S = R at *
  clear hN hn1 h
  go_enter Tryz.func81, Tryz.ntmps81
  go_wp2_with fail
  refine kc.mono ?_
  rintro e w1 ⟨rfl, hR1, hg1⟩
  clear kc
  go_wp2
  go_loopw [7, 13] (fun s7 s13 wr => ∃ (j : Nat) (u : Value) (es : List EntV), u = s7 ∧ j ≤ N ∧ s13 = .int .i64 (j : Nat) ∧ wr.ownsRow w.heap.size 30 13 u es.length (entsV es) ∧ Hid (∀ e ∈ es, OwnsE wr w.heap.size e) ∧ Hid (es.map EntV.e = (pents10 j T).1) ∧ Rdr w0 wr rb (pents10 j T).2 ∧ w.grownBy wr (some rb)) (fun _ s13 _ => N - (intOf s13).toNat)
  case atStart => exact ⟨0, _, [], rfl, Nat.zero_le _, rfl, World.ownsRow_nil _ _ _ 13, (fun _ h => by cases h), rfl, hR1, hg1⟩
  case round =>
    clear hR1 hg1
    obtain ⟨j, u, es, hu, hj, rfl, ho, hall, hes, hR, hg⟩ := hrel
    subst hu
    have hel : es.length = j := by
      have := congrArg List.length hes.out
      rwa [List.length_map, pents10_len] at this
    have HEL : Hid (es.length = j) := hel
    by_cases hlt : j < N
    · have HS : Hid (pents10 (j + 1) T = ((pents10 j T).1 ++ [(pent10 (pents10 j T).2).1], (pent10 (pents10 j T).2).2)) := rfl
      have ki := partE_any w0 wr rb _ hR
      generalize pents10 j T = Q at *
      obtain ⟨l, st⟩ := Q
      dsimp only at hes HS ki
      generalize pent10 st = A at *
      obtain ⟨z, st2⟩ := A
      dsimp only at HS ki
      have hrr := hR.lt.2
      have hwr := hg.size
      clear hR hel
      go_wp2_with fail
      refine ki.mono ?_
      rintro e w2 ⟨X, rfl, hX, hM, hR2, hg2⟩
      have ho2 : w2.ownsRow w.heap.size 30 13 u es.length (entsV es) := World.ownsRow.kept ho hg2 (by
        cases hv : u.ownBlock with
        | none => exact .inl rfl
        | some k =>
          have := (World.ownsRow.lt ho k hv).1
          exact .inr (fun e => by cases e; omega))
      have HA2 : Hid (∀ e ∈ es, OwnsE w2 w.heap.size e) := fun e he => (hall.out e he).kept hg2 (by omega)
      have hM2 := hM.mono hwr
      have hG2 := grown_trans hg hg2
      have hsz := hG2.size
      have HX : Hid (X.e = z) := hX
      have hlen16 : es.length ≤ 16 := by rw [HEL.out]; omega
      clear ki ho hall hg hg2 hM hX
      have hoA := World.ownsRow.alloc ho2 (.cells X.arr 30)
      have hnew := new_row w2 X.arr 30
      have hone := entsV_cell [X]
      rw [entsV_one] at hone
      have hMA : OwnsE (w2.alloc (.cells X.arr 30)) w.heap.size X := hM2.below ((Below.refl _ _).alloc (Nat.le_refl _) _)
      have HAA : Hid (∀ e ∈ es, OwnsE (w2.alloc (.cells X.arr 30)) w.heap.size e) := fun e he => (HA2.out e he).below ((Below.refl _ _).alloc (Nat.le_refl _) _)
      have HXL : Hid (X.arr.toList.length = 1 * 13) := rfl
      have hbel : ∀ w3, (w2.alloc (.cells X.arr 30)).grownBy w3 u.ownBlock → Below w.heap.size w2 w3 := fun w3 hgr => ((Below.refl w.heap.size w2).alloc hsz _).grown hgr (by simp; omega) fun k hk => (World.ownsRow.lt ho2 k hk).1
      have HBel : Hid _ := hbel
      have HEnd : Hid (∀ w3 u3, w3.ownsRow w.heap.size 30 13 u3 (es.length + 1) (entsV es ++ X.arr.toList) → (w2.alloc (.cells X.arr 30)).grownBy w3 u.ownBlock → w3.ownsRow w.heap.size 30 13 u3 (es ++ [X]).length (entsV (es ++ [X])) ∧ ∀ e ∈ es ++ [X], OwnsE w3 w.heap.size e) := fun w3 u3 h3 hg3 => by
        refine ⟨?_, fun e he => ?_⟩
        · rw [entsV_append, entsV_one, List.length_append, List.length_singleton]
          exact h3
        · rcases List.mem_append.1 he with he | he
          · exact (HAA.out e he).app hoA hg3
          · rw [List.mem_singleton.1 he]
            exact hMA.app hoA hg3
      have HMap : Hid ((es ++ [X]).map EntV.e = l ++ [z]) := by
        rw [Hid, List.map_append, hes.out, List.map_cons, List.map_nil, HX.out]
      clear HAA hMA HA2 hM2 hbel HX hes
      obtain ⟨xi, xt, xk, ⟨ck, cs, cq, ckey, cold, cval, cunt, clim⟩, ⟨⟨p1, n1, c1⟩, ⟨q1, m1, d1⟩, f1⟩⟩ := X
      unfold EntV.arr at hoA hnew hone HBel HEnd HXL
      dsimp only at hoA hnew hone HBel HEnd HXL
      unfold EntV.arr
      dsimp only
      go_wp2_with (at_builtin; refine wpList_append_own _ rfl _ _ 51 rfl w.heap.size 30 i1 (.agg noEV.arr) 13 168 Tryz.underlying51 hi1 hz1 hs1 hby1 rfl (by decide) u es.length (entsV es) rfl hoA ⟨w2.heap.size, 0, none⟩ 1 1 [.int .i64 xi, .int .i64 xt, .int .i64 xk, .int .i64 ck, .int .i64 cs, .int .i64 cq, .string ckey, .string cold, .string cval, .string cunt, .int .i64 clim, .slice p1 n1 c1, .slice q1 m1 d1] rfl rfl hnew hone (by unfold maxLen; omega) (by omega) (by simp; omega) ?_; intro v5 w5 ho5 hg5 _)
      have hb5 := HBel.out w5 hg5
      have hE := HEnd.out w5 v5 ho5 hg5
      go_roundw
      case rel =>
        refine ⟨j + 1, _, es ++ [(⟨xi, xt, xk, ⟨ck, cs, cq, ckey, cold, cval, cunt, clim⟩, ⟨⟨p1, n1, c1⟩, ⟨q1, m1, d1⟩, f1⟩⟩ : EntV)], rfl, by omega, by go_num, hE.1, hE.2, by rw [HS.out]; exact HMap.out, ?_, grown_belowE hG2 hb5⟩
        rw [HS.out]
        obtain ⟨v', hv'⟩ := hR2.rd
        exact ⟨⟨v', hv'.below hb5 hrl.2⟩, hR2.bel.trans (hb5.mono (by have := hR2.bel.size; omega)), hR2.inv, hR2.isb, hR2.len⟩
      case measure => simp only [intOf]; omega
    · obtain rfl : j = N := by omega
      obtain ⟨p9, n9, c9, hv9⟩ : ∃ p n c, u = .slice p n c := by
        rcases ho.2 with ⟨rfl, _⟩ | ⟨g, cap, cur, rfl, _⟩
        · exact ⟨_, _, _, rfl⟩
        · exact ⟨_, _, _, rfl⟩
      subst hv9
      go_wp2
      go_ret
      exact ⟨_, _, _, es, rfl, ⟨ho, hall.out⟩, by rw [HL.out]; exact hes.out, by rw [HEL.out]; omega, by rw [HL.out]; exact hR, hg⟩
end Go.Proofs.YtnbaoimjcaeeaaaGreat
