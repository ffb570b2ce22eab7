import Derived.Test.YtefgnehahedckaaDs6To
/-
  Plain mathematics of corbellaw08.DiskKeeps: what is sure, what is behind that, and how much is left.
-/
namespace Go.Proofs.Ytefgnehahedckaa
open Go.RowKit Go.Maps

theorem more_le (M : DM) (x : ByteArray) (b : List Int) : M.more x b ≤ b.length := by
  unfold DM.more need
  omega
/-- The names that were given are there, as far as they are good; nothing is in any file. -/
structure Keep1 (c : Nat) (ns : List ByteArray) (M : DM) : Prop where
  calm : Calm8 100000 c M
  buf : M.buf = []
  nil : ∀ x, lk M.L x = []
  mem : ∀ x, x ∈ M.names ↔ x ∈ ns ∧ goodN x = true
  used : M.used ≤ ns.length
theorem Keep1.empty : Keep1 0 [] (DM.empty 100000) := ⟨⟨okN_empty 100000 (by decide), rfl, rfl, rfl⟩, rfl, fun _ => rfl, fun x => ⟨fun h => (by cases h), fun h => (by cases h.1)⟩, Nat.le_refl _⟩
theorem Keep1.step {c : Nat} {ns : List ByteArray} {M : DM} (h : Keep1 c ns M) (x : ByteArray) (hn : ns.length < 100000) : Keep1 (c + 1) (ns ++ [x]) (M.create x).2 ∧ ((M.create x).1 = if goodN x = true then 0 else 3) := by
  have hC := (h.calm.create x).1
  have hI := h.calm.ok.inv
  by_cases hg : goodN x = true
  · have hB := (h.calm.act fun M => M.create1 x)
    have hcr : M.create x = DM.create1 { M with ops := M.ops + 1 } x := by
      unfold DM.create
      rw [if_neg (by rw [h.calm.off]; decide), if_neg (by rw [hg]; decide), hB.1, hB.2]
    have hcase : M.create x = (0, (({ M with ops := M.ops + 1 } : DM).gone x).put x []) := by
      rw [hcr]
      unfold DM.create1
      by_cases hx : x ∈ M.names
      · rw [if_pos hx]
      · rw [if_neg hx]
        have h1 : M.used < 100000 := Nat.lt_of_le_of_lt h.used hn
        have h2 := h.calm.blocks
        refine (if_neg (show ¬ M.blocks ≤ M.used by omega)).trans ?_
        congr 1
        show ({ M with ops := M.ops + 1 } : DM).put x [] = _
        have h3 := DM.gone_none hI hx
        have h4 : ({ M with ops := M.ops + 1 } : DM).gone x = { M.gone x with ops := M.ops + 1 } := rfl
        rw [h4, h3]
    rw [hcase] at hC ⊢
    have hxg : x ∉ (M.gone x).names := fun hm => ((DM.names_gone M x x).1 hm).2 rfl
    refine ⟨⟨hC, ?_, fun y => ?_, fun y => ?_, ?_⟩, by rw [if_pos hg]⟩
    · show M.buf.filter _ = []
      rw [h.buf]
      rfl
    · show lk (insF x [] (M.gone x).L) y = []
      rw [lk_ins hxg]
      split
      · rfl
      · rename_i hyx
        show lk (M.L.filter _) y = []
        rw [lk_filter hyx]
        exact h.nil y
    · show y ∈ ((M.gone x).put x []).names ↔ _
      rw [DM.names_put, DM.names_gone, h.mem]
      simp only [List.mem_append, List.mem_singleton]
      constructor
      · rintro (rfl | ⟨⟨h1, h2⟩, _⟩)
        · exact ⟨.inr rfl, hg⟩
        · exact ⟨.inl h1, h2⟩
      · rintro ⟨h1 | h1, h2⟩
        · by_cases e : y = x
          · exact .inl e
          · exact .inr ⟨⟨h1, h2⟩, e⟩
        · exact .inl h1
    · show ((M.gone x).put x []).used ≤ _
      rw [DM.used_put _ (hI.gone x) hxg, List.length_append]
      have h1 : (M.gone x).used ≤ M.used := by
        by_cases hx : x ∈ M.names
        · have := DM.used_gone hI hx; omega
        · rw [DM.gone_none hI hx]; exact Nat.le_refl _
      have := h.used
      show _ ≤ ns.length + 1
      omega
  · have hg' : goodN x = false := by simpa using hg
    have hcr : M.create x = (3, M) := by
      unfold DM.create
      rw [if_neg (by rw [h.calm.off]; decide), if_pos hg']
    rw [hcr, if_neg hg]
    refine ⟨⟨h.calm.mono, h.buf, h.nil, fun y => ?_, ?_⟩, rfl⟩
    · rw [h.mem]
      simp only [List.mem_append, List.mem_singleton]
      constructor
      · rintro ⟨h1, h2⟩; exact ⟨.inl h1, h2⟩
      · rintro ⟨h1 | rfl, h2⟩
        · exact ⟨h1, h2⟩
        · exact absurd h2 hg
    · rw [List.length_append]; have := h.used; show M.used ≤ ns.length + 1; omega

/-- The writes: the names are there, and there is room enough. -/
structure Keep2 (c T : Nat) (ns : List ByteArray) (M : DM) : Prop where
  calm : Calm8 100000 c M
  mem : ∀ x, x ∈ M.names ↔ x ∈ ns ∧ goodN x = true
  used : M.used ≤ 8 + T
theorem Keep1.two {c : Nat} {ns : List ByteArray} {M : DM} (h : Keep1 c ns M) (hn : ns.length ≤ 8) : Keep2 c 0 ns M ∧ (∀ x, M.bytes x = []) ∧ (∀ x, lk M.L x = []) ∧ tot M.buf = 0 :=
  ⟨⟨h.calm, h.mem, by have := h.used; omega⟩, fun x => by unfold DM.bytes; rw [h.nil, h.buf]; rfl, h.nil, by rw [h.buf]; rfl⟩
theorem Keep2.none {c T : Nat} {ns : List ByteArray} {M : DM} (h : Keep2 c T ns M) {x : ByteArray} (hx : x ∉ M.names) : M.bytes x = [] ∧ lk M.L x = [] := by
  have h1 := lk_none hx
  refine ⟨?_, h1⟩
  unfold DM.bytes
  rw [h1, pend_none fun w hw (e : w.1 = x) => hx (by rw [← e]; exact h.calm.ok.inv.mem w hw)]
  rfl
theorem Keep2.append {c T : Nat} {ns : List ByteArray} {M : DM} (h : Keep2 c T ns M) (x : ByteArray) {b : List Int} (hb : isB8 b) (hT : T + b.length ≤ 50000) :
    Keep2 (c + 1) (T + b.length) ns (M.append x b).2 ∧ ((x ∈ ns ∧ goodN x = true ∧ (M.append x b).1 = 0 ∧ tot (M.append x b).2.buf = tot M.buf + b.length ∧ ∀ y, (M.append x b).2.bytes y = M.bytes y ++ if x = y then b else []) ∨ (¬ (x ∈ ns ∧ goodN x = true) ∧ (M.append x b).1 = 4 ∧ tot (M.append x b).2.buf = tot M.buf ∧ ∀ y, (M.append x b).2.bytes y = M.bytes y)) ∧ ∀ y, lk (M.append x b).2.L y = lk M.L y := by
  have hC := (h.calm.append x hb).1
  by_cases hx : x ∈ M.names
  · have hB := (h.calm.act fun M => M.append1 x b)
    have hap : M.append x b = (0, { M with ops := M.ops + 1, buf := M.buf ++ [(x, b)] }) := by
      unfold DM.append
      rw [if_neg (by rw [h.calm.off]; decide), if_neg (fun h => h hx), hB.1, hB.2]
      unfold DM.append1
      have h1 := h.used
      have h2 := h.calm.blocks
      have h3 : DM.more { M with ops := M.ops + 1 } x b ≤ b.length := more_le _ _ _
      exact if_neg (show ¬ M.blocks - M.used < DM.more { M with ops := M.ops + 1 } x b by omega)
    have hu := DM.used_append h.calm.ok.inv hx b
    have hm := more_le M x b
    rw [hap] at hC ⊢
    refine ⟨⟨hC, h.mem, ?_⟩, .inl ⟨((h.mem x).1 hx).1, ((h.mem x).1 hx).2, rfl, ?_, fun y => ?_⟩, fun y => rfl⟩
    · have h1 := h.used
      show DM.used { M with buf := M.buf ++ [(x, b)] } ≤ _
      omega
    · show tot (M.buf ++ [(x, b)]) = _
      rw [tot_append]
      rfl
    · show lk M.L y ++ pend (M.buf ++ [(x, b)]) y = (lk M.L y ++ pend M.buf y) ++ _
      rw [pend_append, ← List.append_assoc]
      congr 1
      rw [pend, pend]
      split <;> simp
  · have hap : M.append x b = (4, M) := by
      unfold DM.append
      rw [if_neg (by rw [h.calm.off]; decide), if_pos hx]
    rw [hap] at hC ⊢
    refine ⟨⟨hC, h.mem, by have := h.used; show M.used ≤ 8 + (T + b.length); omega⟩, .inr ⟨fun h1 => hx ((h.mem x).2 h1), rfl, rfl, fun y => rfl⟩, fun y => rfl⟩
theorem Keep2.sync {c T : Nat} {ns : List ByteArray} {M : DM} (h : Keep2 c T ns M) : Keep2 (c + 1) T ns M.syncs.2 ∧ M.syncs.1 = 0 ∧ tot M.syncs.2.buf = 0 ∧ (∀ y, M.syncs.2.bytes y = M.bytes y) ∧ ∀ y, lk M.syncs.2.L y = M.bytes y := by
  obtain ⟨hC, -, he⟩ := h.calm.syncs
  rw [he] at hC ⊢
  have hl : ∀ y, lk (M.L.map fun f => (f.1, f.2 ++ pend M.buf f.1)) y = M.bytes y := fun y => by
    by_cases hy : y ∈ M.names
    · rw [DM.lk_map _ hy]; rfl
    · rw [(h.none hy).1, lk_none (by rw [DM.nms_map]; exact hy)]
  refine ⟨⟨hC, fun x => ?_, ?_⟩, rfl, rfl, fun y => ?_, hl⟩
  · show x ∈ nms (M.L.map fun f => (f.1, f.2 ++ pend M.buf f.1)) ↔ _
    rw [DM.nms_map]
    exact h.mem x
  · have h1 := h.used
    have h2 : M.sync.used ≤ M.used := by
      rw [DM.sync_eq]
      exact DM.used_left M.buf _ M.L
    show M.sync.used ≤ _
    omega
  · show lk (M.L.map fun f => (f.1, f.2 ++ pend M.buf f.1)) y ++ pend [] y = _
    rw [hl, pend, List.append_nil]
/-- Behind a failure. -/
theorem Keep2.fall {c T : Nat} {ns : List ByteArray} {M : DM} (h : Keep2 c T ns M) (k : Int) {x : ByteArray} (hx : x ∈ ns) (hg : goodN x = true) : ((M.crash k).start).readE x = 0 ∧ ((M.crash k).start).readB x = lk M.L x ++ left k.toNat M.buf x := by
  have hm : x ∈ nms (M.L.map fun f => (f.1, f.2 ++ left k.toNat M.buf f.1)) := by rw [DM.nms_map]; exact (h.mem x).2 ⟨hx, hg⟩
  have ho : ¬ ((M.crash k).start.off = true) := Bool.noConfusion
  unfold DM.readE DM.readB
  refine ⟨(if_neg ho).trans (if_neg fun h => h hm), ((if_neg ho).trans (if_neg fun h => h hm)).trans ?_⟩
  show lk (M.L.map fun f => (f.1, f.2 ++ left k.toNat M.buf f.1)) x ++ pend [] x = _
  rw [DM.lk_map _ ((h.mem x).2 ⟨hx, hg⟩), pend, List.append_nil]
/-- The good names of a row, each once. -/
def once8 : List ByteArray → List ByteArray → List ByteArray
  | _, [] => []
  | seen, x :: r => if goodN x = true ∧ x ∉ seen then x :: once8 (seen ++ [x]) r else once8 (seen ++ [x]) r
def sumL (k : Nat) (buf : List (ByteArray × List Int)) (l : List ByteArray) : Nat := (l.map fun x => (left k buf x).length).sum
theorem sum_one (z : Nat) (y : ByteArray) : ∀ l : List ByteArray, l.Nodup → (l.map fun x => if y = x then z else 0).sum = if y ∈ l then z else 0
  | [], _ => rfl
  | x :: r, h => by
    rw [List.map_cons, List.sum_cons, sum_one z y r (List.nodup_cons.1 h).2]
    by_cases e : y = x
    · have hr : y ∉ r := by rw [e]; exact (List.nodup_cons.1 h).1
      rw [if_pos e, if_neg hr, if_pos (by rw [e]; exact List.mem_cons_self)]
      rfl
    · rw [if_neg e, Nat.zero_add]
      by_cases hr : y ∈ r
      · rw [if_pos hr, if_pos (List.mem_cons_of_mem _ hr)]
      · rw [if_neg hr, if_neg (fun h => (List.mem_cons.1 h).elim e hr)]
theorem sum_add (f g : ByteArray → Nat) : ∀ l : List ByteArray, (l.map fun x => f x + g x).sum = (l.map f).sum + (l.map g).sum
  | [] => rfl
  | x :: r => by simp only [List.map_cons, List.sum_cons, sum_add f g r]; omega
theorem sumL_all {l : List ByteArray} (hl : l.Nodup) : ∀ (buf : List (ByteArray × List Int)) (k : Nat), (∀ w ∈ buf, w.1 ∈ l) → sumL k buf l = min k (tot buf)
  | [], k, _ => by
    have : ∀ l : List ByteArray, sumL k [] l = 0 := fun l => by
      induction l with
      | nil => rfl
      | cons x r ih => unfold sumL at ih ⊢; rw [List.map_cons, List.sum_cons, ih]; rfl
    rw [this]
    show 0 = min k 0
    omega
  | w :: r, k, h => by
    have hr := sumL_all hl r (k - w.2.length) fun v hv => h v (List.mem_cons_of_mem _ hv)
    have e : ∀ x, (left k (w :: r) x).length = (if w.1 = x then min k w.2.length else 0) + (left (k - w.2.length) r x).length := fun x => by
      rw [left, List.length_append]
      congr 1
      split
      · rw [List.length_take]
      · rfl
    unfold sumL at hr ⊢
    simp only [e]
    rw [sum_add, sum_one _ _ _ hl, if_pos (h w List.mem_cons_self), hr, tot]
    omega
theorem once8_mem : ∀ (l seen : List ByteArray) (x : ByteArray), x ∈ once8 seen l ↔ x ∈ l ∧ goodN x = true ∧ x ∉ seen
  | [], seen, x => ⟨fun h => (by cases h), fun h => by cases h.1⟩
  | y :: r, seen, x => by
    have ih := once8_mem r (seen ++ [y]) x
    simp only [List.mem_append, List.mem_singleton, not_or] at ih
    rw [once8]
    split
    · rename_i hy
      rw [List.mem_cons, ih, List.mem_cons]
      constructor
      · rintro (rfl | ⟨h1, h2, h3, _⟩)
        · exact ⟨.inl rfl, hy.1, hy.2⟩
        · exact ⟨.inr h1, h2, h3⟩
      · rintro ⟨h1, h2, h3⟩
        by_cases e : x = y
        · exact .inl e
        · exact .inr ⟨h1.resolve_left e, h2, h3, e⟩
    · rename_i hy
      rw [ih, List.mem_cons]
      constructor
      · rintro ⟨h1, h2, h3, _⟩; exact ⟨.inr h1, h2, h3⟩
      · rintro ⟨h1, h2, h3⟩
        have e : x ≠ y := fun e => hy (by rw [← e]; exact ⟨h2, h3⟩)
        exact ⟨h1.resolve_left e, h2, h3, e⟩
theorem once8_nodup : ∀ (l seen : List ByteArray), (once8 seen l).Nodup
  | [], _ => List.nodup_nil
  | y :: r, seen => by
    rw [once8]
    split
    · refine List.nodup_cons.2 ⟨fun h => ?_, once8_nodup r _⟩
      exact ((once8_mem r (seen ++ [y]) y).1 h).2.2 (by simp)
    · exact once8_nodup r _
theorem once8_snoc : ∀ (l seen : List ByteArray) (x : ByteArray), once8 seen (l ++ [x]) = once8 seen l ++ if goodN x = true ∧ x ∉ seen ++ l then [x] else []
  | [], seen, x => by
    rw [List.nil_append, List.append_nil, once8, once8, once8]
    split <;> rfl
  | y :: r, seen, x => by
    rw [List.cons_append, once8, once8, once8_snoc r (seen ++ [y]) x, List.append_assoc, List.singleton_append]
    split
    · rfl
    · rfl
theorem once8_app : ∀ (l r seen : List ByteArray), once8 seen (l ++ r) = once8 seen l ++ once8 (seen ++ l) r
  | [], r, seen => by rw [List.nil_append, List.append_nil]; rfl
  | y :: l, r, seen => by
    rw [List.cons_append, once8, once8, once8_app l r (seen ++ [y]), List.append_assoc, List.singleton_append]
    split
    · rfl
    · rfl
theorem sumL_take (k : Nat) (buf : List (ByteArray × List Int)) (l : List ByteArray) (m : Nat) : sumL k buf (once8 [] (l.take m)) ≤ sumL k buf (once8 [] l) := by
  conv => rhs; rw [← List.take_append_drop m l, once8_app]
  unfold sumL
  rw [List.map_append, List.sum_append]
  omega
/-- How much is left of the buffer, over the names so far. -/
theorem sumL_snoc (k : Nat) (buf : List (ByteArray × List Int)) (l : List ByteArray) (x : ByteArray) : sumL k buf (once8 [] (l ++ [x])) = sumL k buf (once8 [] l) + if goodN x = true ∧ x ∉ l then (left k buf x).length else 0 := by
  rw [once8_snoc]
  unfold sumL
  rw [List.map_append, List.sum_append, List.nil_append]
  split
  · simp
  · simp
theorem Keep2.sum {c T : Nat} {ns : List ByteArray} {M : DM} (h : Keep2 c T ns M) (k : Nat) : sumL k M.buf (once8 [] ns) = min k (tot M.buf) :=
  sumL_all (once8_nodup ns []) M.buf k fun w hw => (once8_mem ns [] w.1).2 (by
    have := (h.mem w.1).1 (h.calm.ok.inv.mem w hw)
    exact ⟨this.1, this.2, by simp⟩)
theorem few_data8 {xs : List Act8} (h : Few8 xs) : (xs.map fun x => x.data.length).sum ≤ 30000 := by
  have : ∀ l : List Act8, (l.map fun x => x.data.length).sum ≤ 50 * (l.map cost8).sum := by
    intro l
    induction l with
    | nil => exact Nat.le_refl _
    | cons a l ih =>
      rw [List.map_cons, List.map_cons, List.sum_cons, List.sum_cons]
      have : a.data.length ≤ 50 * cost8 a := by unfold cost8; omega
      omega
  have h1 := this xs
  unfold Few8 at h
  omega
end Go.Proofs.Ytefgnehahedckaa

/-
  Rows of slices of bytes that a law keeps beside a disk; append as a step of a region that draws.
-/
namespace Go.Proofs.Ytefgnehahedckaa
open Go.RowKit Go.Maps

/-- Bytes that lie outside of T, behind a call that turned blocks of S alone. -/
theorem HasX.move {w w' : World} {S T T' : Nat → Prop} {v : Value} {xs : List Int} (h : HasX w T v xs) (ht : Turn S w w') (hS : ∀ k, S k → T k) (hT : ∀ k, k < w.heap.size → T' k → T k) : HasX w' T' v xs := by
  obtain ⟨p, c, rfl, h1, h2, h3⟩ := h
  refine ⟨p, c, rfl, h1, h2, fun h0 => ?_⟩
  obtain ⟨b, o, rfl, hn, hb, hc⟩ := h3 h0
  exact ⟨b, o, rfl, fun hs => hn (hT b hb hs), Nat.lt_of_lt_of_le hb ht.size, fun i hi => (ht.cell (p := ⟨b, o + i, none⟩) hb fun hs => hn (hS b hs)).trans (hc i hi)⟩
theorem HasX.nil (w : World) (T : Nat → Prop) : HasX w T (.slice none 0 0) [] := ⟨_, _, rfl, Nat.le_refl _, fun _ => rfl, fun h => absurd h (Nat.lt_irrefl 0)⟩
/-- A row of slices in a block g of its own; what they hold lies outside of T. -/
structure Row8 (w : World) (T : Nat → Prop) (g : Nat) (us : List Value) (bs : List (List Int)) : Prop where
  blk : w.heap[g]? = some (.cells us.toArray 29 (0, 0))
  len : us.length = bs.length
  has : ∀ i, i < bs.length → HasX w T (us.getD i undef) (bs.getD i [])
section
variable {w w' : World} {S T T' : Nat → Prop} {g : Nat} {us : List Value} {bs : List (List Int)}
theorem Row8.lt (h : Row8 w T g us bs) : g < w.heap.size := (Array.getElem?_eq_some_iff.1 h.blk).1
theorem Row8.cell (h : Row8 w T g us bs) {i : Nat} (hi : i < bs.length) : w.cell? ⟨g, i, none⟩ = some (us.getD i undef) := by
  unfold World.cell?
  dsimp only
  rw [h.blk]
  have hi' : i < us.length := by rw [h.len]; exact hi
  simp [List.getD_eq_getElem?_getD, List.getElem?_eq_getElem hi']
theorem Row8.free (h : Row8 w T g us bs) (i : Nat) : w.frozen? ⟨g, i, none⟩ = false := by simp [World.frozen?, h.blk]
theorem Row8.move (h : Row8 w T g us bs) (ht : Turn S w w') (hS : ∀ k, S k → T k) (hg : ¬ S g) (hT : ∀ k, k < w.heap.size → T' k → T k) : Row8 w' T' g us bs :=
  ⟨(ht.block g h.lt hg).trans h.blk, h.len, fun i hi => (h.has i hi).move ht hS hT⟩
theorem Row8.set (h : Row8 w T g us bs) (hT : T g) (i : Nat) {v : Value} {xs : List Int} (hv : HasX w T v xs) : Row8 (w.setCell ⟨g, i, none⟩ v) T g (us.set i v) (bs.set i xs) := by
  have ht : Turn T w (w.setCell ⟨g, i, none⟩ v) := (Turn.refl T w).setCell (.inl hT) v
  refine ⟨?_, by rw [List.length_set, List.length_set, h.len], fun j hj => ?_⟩
  · have := h.blk
    simp [World.setCell, Array.getElem?_modify, this]
  · rw [List.length_set] at hj
    have hj' : j < us.length := by rw [h.len]; exact hj
    by_cases e : i = j
    · subst e
      have e1 : (us.set i v).getD i undef = v := by simp [List.getD_eq_getElem?_getD, hj']
      have e2 : (bs.set i xs).getD i [] = xs := by simp [List.getD_eq_getElem?_getD, hj]
      rw [e1, e2]
      exact hv.turn ht
    · have e1 : (us.set i v).getD j undef = us.getD j undef := by simp [List.getD_eq_getElem?_getD, e]
      have e2 : (bs.set i xs).getD j [] = bs.getD j [] := by simp [List.getD_eq_getElem?_getD, e]
      rw [e1, e2]
      exact (h.has j hj).turn ht
end
/-- What is taken: the disk's blocks and the two rows'. -/
def with8 (S : Nat → Prop) (ga gs : Nat) : Nat → Prop := fun k => S k ∨ k = ga ∨ k = gs
/-- A disk, and two rows of slices of bytes beside it. -/
structure Keep8 (w0 w : World) (d ga gs : Nat) (S : Nat → Prop) (M : DM) (us vs : List Value) (A B : List (List Int)) : Prop where
  disk : Disk8 w0 w d S M
  nA : ¬ S ga
  nS : ¬ S gs
  ne : ga ≠ gs
  fA : w0.heap.size ≤ ga
  fS : w0.heap.size ≤ gs
  rowA : Row8 w (with8 S ga gs) ga us A
  rowS : Row8 w (with8 S ga gs) gs vs B
section
variable {w0 w w' : World} {d ga gs : Nat} {S : Nat → Prop} {M M' : DM} {us vs : List Value} {A B : List (List Int)}
theorem Keep8.op (h : Keep8 w0 w d ga gs S M us vs A B) (hD : Disk8 w0 w' d (more8 S w w') M') (ht : Turn S w w') : Keep8 w0 w' d ga gs (more8 S w w') M' us vs A B := by
  have hT : ∀ k, k < w.heap.size → with8 (more8 S w w') ga gs k → with8 S ga gs k := fun k hk hw => by
    rcases hw with (h1 | h1) | h1
    · exact .inl h1
    · omega
    · exact .inr h1
  have hS : ∀ k, S k → with8 S ga gs k := fun _ h => .inl h
  exact ⟨hD, fun hs => hs.elim h.nA fun h1 => absurd h1.1 (by have := h.rowA.lt; omega), fun hs => hs.elim h.nS fun h1 => absurd h1.1 (by have := h.rowS.lt; omega), h.ne, h.fA, h.fS, h.rowA.move ht hS h.nA hT, h.rowS.move ht hS h.nS hT⟩
theorem Keep8.below (h : Keep8 w0 w d ga gs S M us vs A B) (hb : Below w.heap.size w w') : Keep8 w0 w' d ga gs S M us vs A B := by
  have ht : Turn (fun _ => False) w w' := Turn.of_below hb (Nat.le_refl _)
  exact ⟨h.disk.below hb, h.nA, h.nS, h.ne, h.fA, h.fS, h.rowA.move ht (fun _ h => h.elim) id (fun _ _ h => h), h.rowS.move ht (fun _ h => h.elim) id (fun _ _ h => h)⟩
theorem Keep8.setA (h : Keep8 w0 w d ga gs S M us vs A B) (i : Nat) {v : Value} {xs : List Int} (hv : HasX w (with8 S ga gs) v xs) : Keep8 w0 (w.setCell ⟨ga, i, none⟩ v) d ga gs S M (us.set i v) vs (A.set i xs) B := by
  have ht : Turn (fun k => k = ga) w (w.setCell ⟨ga, i, none⟩ v) := (Turn.refl (fun k => k = ga) w).setCell (p := ⟨ga, i, none⟩) (.inl rfl) v
  exact ⟨h.disk.turn ht (fun k hk e => h.nA (e ▸ hk)) (fun k e => e ▸ h.fA), h.nA, h.nS, h.ne, h.fA, h.fS, h.rowA.set (.inr (.inl rfl)) i hv, h.rowS.move ht (fun k e => .inr (.inl e)) (fun e => h.ne e.symm) (fun _ _ h => h)⟩
theorem Keep8.setS (h : Keep8 w0 w d ga gs S M us vs A B) (i : Nat) {v : Value} {xs : List Int} (hv : HasX w (with8 S ga gs) v xs) : Keep8 w0 (w.setCell ⟨gs, i, none⟩ v) d ga gs S M us (vs.set i v) A (B.set i xs) := by
  have ht : Turn (fun k => k = gs) w (w.setCell ⟨gs, i, none⟩ v) := (Turn.refl (fun k => k = gs) w).setCell (p := ⟨gs, i, none⟩) (.inl rfl) v
  exact ⟨h.disk.turn ht (fun k hk e => h.nS (e ▸ hk)) (fun k e => e ▸ h.fS), h.nA, h.nS, h.ne, h.fA, h.fS, h.rowA.move ht (fun k e => .inr (.inr e)) (fun e => h.ne e) (fun _ _ h => h), h.rowS.set (.inr (.inr rfl)) i hv⟩
/-- Bytes that came in. -/
theorem Keep8.old (h : Keep8 w0 w d ga gs S M us vs A B) {v : Value} {xs : List Int} (hv : Has w0 v xs) : HasX w (with8 S ga gs) v xs := by
  obtain ⟨p, c, rfl, h1, h2, h3⟩ := hv
  refine ⟨p, c, rfl, h1, h2, fun h0 => ?_⟩
  obtain ⟨b, o, rfl, hb, hc⟩ := h3 h0
  refine ⟨b, o, rfl, fun hs => ?_, Nat.lt_of_lt_of_le hb h.disk.bel.size, fun i hi => (h.disk.bel.cell (p := ⟨b, o + i, none⟩) hb).trans (hc i hi)⟩
  have fA := h.fA
  have fS := h.fS
  rcases hs with hs | hs | hs
  · have := (h.disk.own b hs).1; omega
  · omega
  · omega
/-- Bytes that the law has just made. -/
theorem Keep8.fresh (h : Keep8 w0 w d ga gs S M us vs A B) {v : Value} {xs : List Int} (ho : Owns w' w.heap.size 5 v xs) : HasX w' (with8 S ga gs) v xs :=
  HasX.of_owns ho fun k hk => by
    rcases hk with hk | hk | hk
    · exact (h.disk.own k hk).2
    · rw [hk]; exact h.rowA.lt
    · rw [hk]; exact h.rowS.lt
end
theorem oneB (xs : List Int) : ∀ u ∈ cellsB xs, u.oneCell' = true := fun u hu => by
  obtain ⟨x, _, rfl⟩ := List.mem_map.1 hu
  rfl
theorem below_grown8 {B0 B : Nat} {w W w' : World} {e : TypeId} {size n : Nat} {v : Value} {xs : List Value} (h : Below B0 w W) (hown : W.ownsRow B e size v n xs) (hg : W.grownBy w' v.ownBlock) (hB : B0 ≤ B) (hB0 : B0 ≤ W.heap.size) : Below B0 w w' :=
  h.trans ⟨hg.os, hg.tape, hg.output, hg.size, fun k hk => hg.block k (by omega) fun e => by
    have := (World.ownsRow.lt hown k e.symm).1
    omega⟩
/-- 'append(s, x...)' of bytes, s made in the region: a step of a region that draws its order. -/
theorem step_fresh8 {ops : Array Oper} {o : Oper} {a : Act} {K : Act → World → Prop} {Q : Exit → Act → World → Prop} {E : Prop} (W : World) (hgd : o.guard = none) (s x : Operand)
    (ho : o.op = .call { callee := .builtin .append, args := #[s, x], argTypes := #[29, 29] })
    {w6 : World} (hx : Below w6.heap.size w6 W) (v u : Value) (xs ys : List Int) (hs : a.eval s = v) (hu : a.eval x = u) (hz : Has w6 u ys) (hown : Owns W w6.heap.size 5 v xs) (hlen : xs.length + ys.length ≤ 1099511627776)
    (h : ∀ v' w', Owns w' w6.heap.size 5 v' (xs ++ ys) → Below w6.heap.size w6 w' → K (a.put o.dst v') w') :
    if Region.wanted o (yielded ops a.tmps) = true then Oper.wp Try.prog o a W K Q else E := by
  have hw : Region.wanted o (yielded ops a.tmps) = true := by simp [Region.wanted, hgd]
  rw [if_pos hw]
  obtain ⟨v', w', hr, h1, h2, _⟩ := run_row elemB W o.type w6.heap.size v u xs.length ys.length (cellsB xs) (cellsB ys) (hasR_of_has (hz.below hx (Nat.le_refl _))) (oneB ys) hown (by omega) (by omega) hx.size
  unfold Oper.wp execOp
  simp only [ho, resolve, invoke, builtin, Sem.run_bind, Sem.run_pure, Result.andThen_ok, List.map_toArray, List.map_cons, List.map_nil, hs, hu, hr]
  refine h v' w' ?_ (below_grown8 hx hown h2 (Nat.le_refl _) hx.size)
  unfold Owns
  rw [List.length_append, show cellsB (xs ++ ys) = cellsB xs ++ cellsB ys by simp [cellsB]]
  exact h1
theorem owns_none8 (w : World) : Owns (w.alloc (.cells #[] 5)).drew w.heap.size 5 (.slice (some ⟨w.heap.size, 0, none⟩) 0 0) [] := World.ownsRow_made w #[] 0 (Nat.le_refl _) (by decide) rfl
theorem ext_drew8 (w : World) : Below w.heap.size w w.drew := ⟨rfl, rfl, rfl, Nat.le_refl _, fun _ _ => rfl⟩
theorem ext_alloc8 {w W : World} (h : Below w.heap.size w W) (o : Obj) : Below w.heap.size w (W.alloc o) := h.alloc h.size o
theorem ext_on8 {w W : World} (h : Below w.heap.size w W) : Below w.heap.size w W.drew := ⟨h.os, h.tape, h.output, h.size, h.block⟩
/-- 'make([][]byte, n)'. -/
theorem makeRow8 (w : World) (n : Nat) (hn : n ≤ 100000) : ∃ w', (Instr.makeSlice 39 (.int .i64 (n : Int)) (.int .i64 (n : Int))).run Try.prog w = .ok (.slice (some ⟨w.heap.size, 0, none⟩) n n) w' ∧ w'.heap[w.heap.size]? = some (.cells (List.replicate n (Value.slice none 0 0)).toArray 29 (0, 0)) ∧ Below w.heap.size w w' := by
  obtain ⟨i, hi, hz, hs, hb⟩ := info_parts (show (Try.prog.info? 29).map (fun i => (i.zero, i.size, i.bytes)) = some (some (.slice none 0 0), 1, 24) by kernel_rfl)
  obtain ⟨w', hr, ho, hg⟩ := run_makeSlice_full (P := Try.prog) w w.heap.size 39 29 i (.slice none 0 0) 1 Try.underlying39 hi hz hs .i64 .i64 n (by omega) (by rw [hb]; omega) (by unfold maxLen; omega) (Nat.le_refl _)
  refine ⟨w', hr, ?_, ⟨hg.os, hg.tape, hg.output, hg.size, fun k hk => hg.block k hk (by simp)⟩⟩
  rcases ho.2 with ⟨h, _⟩ | ⟨g, cap, cur, e, _, hg2, hnc, _, hcs, htk⟩
  · cases h
  · simp only [Value.slice.injEq, Option.some.injEq, Addr.mk.injEq, and_true, true_and] at e
    obtain ⟨rfl, rfl⟩ := e
    rw [show (Value.slice none 0 0).cells = #[.slice none 0 0] from rfl, Nat.mul_one, made_list] at htk
    rw [hg2]
    have e3 : cur = (List.replicate n (Value.slice none 0 0)).toArray := Array.toList_inj.1 (by rw [← htk, List.take_of_length_le (by rw [Array.length_toList, hcs]; omega)])
    rw [e3]
theorem row_made8 {w : World} {T : Nat → Prop} {g n : Nat} (h : w.heap[g]? = some (.cells (List.replicate n (Value.slice none 0 0)).toArray 29 (0, 0))) {bs : List (List Int)} (hl : bs.length = n) (hb : ∀ b ∈ bs, b = []) : Row8 w T g (List.replicate n (Value.slice none 0 0)) bs := by
  refine ⟨h, by rw [List.length_replicate, hl], fun i hi => ?_⟩
  have e1 : (List.replicate n (Value.slice none 0 0)).getD i undef = .slice none 0 0 := by simp [List.getD_eq_getElem?_getD, hl ▸ hi]
  have e2 : bs.getD i [] = [] := by rw [List.getD_eq_getElem?_getD, List.getElem?_eq_getElem hi]; exact hb _ (List.getElem_mem hi)
  rw [e1, e2]
  exact HasX.nil _ _
end Go.Proofs.Ytefgnehahedckaa
