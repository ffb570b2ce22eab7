import Derived.Test.YthlghokgknkpaaaGreatDoorSwB3To
import Derived.Test.YthlghokgknkpaaaGreatDoorSwSTo
import Derived.Test.YthlghokgknkpaaaGreatDoorSwEsTo
/-
  Contracts: slices.Clone of words; Map[string].Controls.
-/
namespace Go.Proofs.YthlghokgknkpaaaGreatDoor
open Go.RowKit Go.Shelf

theorem sliceW_nil_s (a : Addr) (n c : Nat) (W : World) : (binOp .eql 59 (.slice (some a) n c) (.slice none 0 0)).run Tryz.prog W = .ok (.bool false) W := by
  simp [binOp, go_sem]
  show ((Op.equalIn (9999 + 1) 59 (.slice (some a) n c) (.slice none 0 0)).run Tryz.prog W).andThen _ = _
  rw [equal_slice_nil 9999 _ _ a n c W Tryz.underlying59]
  rfl
set_option maxRecDepth 10000 in
set_option maxHeartbeats 1000000 in
theorem cloneW_s (bw n cw : Nat) (ws : List Nat) (w : World) (hown : w.ownsRow 0 22 1 (.slice (some ⟨bw, 0, none⟩) n cw) n (cellsW ws)) (hn : 0 < n) (hn2 : n ≤ 100000) :
    Calls Tryz.prog 60 #[.slice (some ⟨bw, 0, none⟩) n cw] w fun e w' => ∃ g cap, e = .returned (.slice (some ⟨g, 0, none⟩) n cap) ∧ w.heap.size ≤ g ∧ w'.ownsRow 0 22 1 (.slice (some ⟨g, 0, none⟩) n cap) n (cellsW ws) ∧ Below w.heap.size w w' := by
  obtain ⟨i1, hi1, hz1, hs1, hb1⟩ := info_parts infoW_s
  have hlen := hown.1
  have he := World.ownsRow_made (e := 22) (size := 1) (base := w.heap.size) w #[] 0 (Nat.le_refl _) (Nat.zero_le _) rfl
  have hcells := row_cells (World.ownsRow.alloc hown (.cells #[] 22))
  have h1 := cellsW_one ws
  have hnil := sliceW_nil_s
  have hb : Below w.heap.size w (w.alloc (.cells #[] 22)) := (Below.refl _ _).alloc (Nat.le_refl _) _
  go_enter Tryz.func60, Tryz.ntmps60
  go_wp2_with (at_builtin; refine wpList_append_own _ rfl (.tmp 5) (.tmp 6) 59 rfl w.heap.size 22 i1 (.int .u64 0) 1 8 Tryz.underlying59 hi1 hz1 hs1 hb1 rfl (by decide) _ 0 [] rfl he ⟨bw, 0, none⟩ n cw (cellsW ws) rfl hlen hcells h1 (by unfold maxLen; omega) (by omega) (by simp) ?_; intro v' w' hown' hgrow _)
  rw [Nat.zero_add, List.nil_append] at hown'
  obtain ⟨g, cap, rfl, hg⟩ := row_some hown' hn
  go_ret
  refine ⟨g, cap, rfl, hg, row_mono hown' (Nat.zero_le _), hb.trans ((Below.refl _ _).grown hgrow (by simp) fun k hk => ?_)⟩
  exact (World.ownsRow.lt he k hk).1

set_option maxHeartbeats 1000000 in
theorem controls_any_s (b bw bs : Nat) (M : SM) (w : World) (h : Lies 74 71 w b bw bs M) (hF : M.Fit) :
    Calls Tryz.prog 27 #[.pointer (some ⟨b, 0, none⟩)] w fun e w' => ∃ g cap, e = .returned (.slice (some ⟨g, 0, none⟩) M.ws.length cap) ∧ w.heap.size ≤ g ∧ w'.ownsRow 0 22 1 (.slice (some ⟨g, 0, none⟩) M.ws.length cap) M.ws.length (cellsW M.ws) ∧ Below w.heap.size w w' := by
  have hr := good_range hF.good
  obtain ⟨cw, cs, r1, r2, r3⟩ := h.row
  have c2 : w.cell? ⟨b, 2, none⟩ = some (.slice (some ⟨bw, 0, none⟩) M.ws.length cw) := by simp [World.cell?, r1]
  have hmade := made_any_s b _ _ _ w c2
  rw [decide_eq_true (by omega : 0 < M.ws.length)] at hmade
  have hcl := cloneW_s bw M.ws.length cw M.ws w r2 (by omega) (by omega)
  clear r1 r2 r3
  go_enter Tryz.func27, Tryz.ntmps27
  go_wp2_with (go_at_call 34; refine hmade.mono ?_; rintro e w ⟨rfl, rfl⟩)
  refine hcl.mono ?_
  rintro e w1 ⟨g, cap, rfl, hg, ho, hb⟩
  go_wp2
  go_ret
  exact ⟨g, cap, rfl, hg, ho, hb⟩
end Go.Proofs.YthlghokgknkpaaaGreatDoor

/-
  Contract: Map[string].Keys of a map without keys.
-/
namespace Go.Proofs.YthlghokgknkpaaaGreatDoor
open Go.RowKit Go.Shelf

theorem infoT_s : (Tryz.prog.info? 9).map (fun i => (i.zero, i.size, i.bytes)) = some (some (.string ⟨#[]⟩), 1, 16) := by kernel_rfl

set_option maxRecDepth 100000 in
set_option maxHeartbeats 4000000 in
theorem keys_empty_s (b bw bs : Nat) (M : SM) (w : World) (hT : Tab w) (h : Lies 74 71 w b bw bs M) (hF : M.Fit) (hn : M.n = 0) (hfull : M.full = []) :
    Calls Tryz.prog 109 #[.pointer (some ⟨b, 0, none⟩)] w fun e w' => ∃ g, e = .returned (.slice (some ⟨g, 0, none⟩) 0 0) ∧ Below w.heap.size w w' := by
  obtain ⟨cw, cs, c0, c1, c2, c3, c4, c5, hcw, hcs⟩ := h.cells
  rw [hn] at c4
  have hr := good_range hF.good
  have hlt := h.lt
  obtain ⟨i1, hi1, hz1, hs1, hb1⟩ := info_parts infoT_s
  have hmk := fun W : World => run_make (P := Tryz.prog) W 80 9 i1 _ Tryz.underlying80 hi1 hz1 .i64 .i64 0 0 (by omega) (by omega) (by rw [hb1]; omega) (by omega)
  simp only [show (0 : Int).toNat = 0 from rfl, Nat.zero_mul] at hmk
  have hmf : ∀ (fn : Fn) (first cap : Array Value) (w : World), (Instr.makeFunc fn first cap).run Tryz.prog w = .ok (.func fn first cap) w := fun _ _ _ _ => rfl
  generalize madeCells _ 0 = A0 at hmk
  clear hi1 hz1 hs1 hb1 i1
  refine (callsIn_wide (n := 9)).1 ?_
  refine callsIn_of_wp_marks Tryz.func109 rfl trivial ?_ rfl
  simp only [Tryz.ntmps109, List.size_toArray, List.length_cons, List.length_nil, Nat.reduceAdd, Nat.reduceSub, Array.replicate_succ, Array.replicate_zero, List.push_toArray, List.append_toArray, List.nil_append, List.cons_append]
  have q0 := Boxed.new w 28 (.pointer (some ⟨b, 0, none⟩))
  have hBq : Below w.heap.size w (w.alloc (.cells #[.pointer (some ⟨b, 0, none⟩)] 28)) := (Below.refl _ w).alloc (Nat.le_refl _) _
  have hzq : (w.alloc (.cells #[.pointer (some ⟨b, 0, none⟩)] 28)).heap.size = w.heap.size + 1 := by simp
  generalize hX0 : w.alloc (.cells #[.pointer (some ⟨b, 0, none⟩)] 28) = X0 at q0 hBq hzq
  have e0 := q0.cell
  have k2 := (hBq.cell (p := ⟨b, 2, none⟩) hlt.1).trans c2
  have k4 := (hBq.cell (p := ⟨b, 4, none⟩) hlt.1).trans c4
  have hmade := made_any_s b _ _ _ X0 k2
  rw [decide_eq_true (by omega : 0 < M.ws.length)] at hmade
  gi_wp2_with (refine ⟨trivial, ?_⟩; gi_at_call 34; refine (callsIn_wide.2 hmade).mono ?_; rintro e X0 ⟨rfl, rfl⟩)
  have q1 := Boxed.new (X0.alloc (.cells A0 9)) 80 (.slice (some ⟨w.heap.size + 1, 0, none⟩) 0 0)
  rw [World.size_alloc, hzq] at q1
  have hB2 : Below w.heap.size w ((X0.alloc (.cells A0 9)).alloc (.cells #[.slice (some ⟨w.heap.size + 1, 0, none⟩) 0 0] 80)) := (hBq.alloc (by omega) _).alloc (by simp; omega) _
  have hz2 : ((X0.alloc (.cells A0 9)).alloc (.cells #[.slice (some ⟨w.heap.size + 1, 0, none⟩) 0 0] 80)).heap.size = w.heap.size + 3 := by simp; omega
  generalize (X0.alloc (.cells A0 9)).alloc (.cells #[.slice (some ⟨w.heap.size + 1, 0, none⟩) 0 0] 80) = X2 at *
  have hw0 := hT.1
  refine range_seqV (m := 7) (gf := 69) (fb := #[.pointer (some ⟨b, 0, none⟩)]) (lb := #[]) rfl (enters_of Tryz.func69 (by kernel_rfl) rfl)
    (full_seq_s b bw bs w.heap.size M X2 (hT.below hB2 hw0) (h.below hB2 (Nat.le_refl _)) hF hlt) (by omega) (fun _ => rfl)
    (fun B pre X => Boxed X (w.heap.size + 1 + 1) 80 (.slice (some ⟨w.heap.size + 1, 0, none⟩) 0 0) ∧ Below w.heap.size w X)
    (fun _ _ _ _ => False)
    ?hI ?hIx ?h0 ?ab ?done ?stop
  case hI =>
    rintro B pre X Y hB ⟨d0, d1⟩ ho
    exact ⟨ho.box d0 (.inl (by omega)), d1.trans (ho.below (by omega) d1.size)⟩
  case hIx => exact fun _ _ _ _ _ _ h _ => h
  case h0 =>
    intro X hX _
    exact ⟨(hX.block _ (by omega)).trans q1, hB2.trans (hX.mono (by omega))⟩
  case stop => exact fun _ _ _ _ _ _ h _ => h.elim
  case ab =>
    apply Exists.intro
    constructor
    · intro l x X K hK
      have hsem := @Oper.semAt_some l
      gi_wp2
      exact hK
    · rintro l B pre p X hB hBX hpre _
      rw [hfull] at hpre
      have := hpre.length_le
      simp at this
  case done =>
    rintro B X hB ⟨d0, d1⟩ hD
    have e1 := d0.cell
    gi_wp2
    refine ⟨by simp, .inl ⟨_, _, rfl, run_takeDeferred hD, ?_⟩⟩
    exact ⟨_, results_tmp rfl _ _ _, _, rfl, d1.trans ((Outside.putObj (B := 0) _ (Nat.le_refl _) hD rfl).below (by omega) d1.size)⟩
end Go.Proofs.YthlghokgknkpaaaGreatDoor

/-
  A region that draws its order, whose operations only read but for three at its end: one that makes memory, which others may come behind, one that waits for all, and one behind it. One walk, in the order of the text. No program is named here.
-/
namespace Go.Proofs.YthlghokgknkpaaaGreatDoor
open Go.RowKit

def valOp : Op → Bool
  | .move _ => true
  | .assign _ => true
  | .load _ _ => true
  | .fieldAddr _ _ _ => true
  | .indexAddr _ _ _ => true
  | .nilCheck _ => true
  | .slice _ _ _ _ _ => true
  | .binOp _ _ _ _ _ => true
  | .store _ _ _ => true
  | _ => false

/-- It is about to enter no function. -/
def NoEnter (s : Sem Next) : Prop := ∀ (P : Program) (w : World) (f : FuncId) (args : Array Value) (w' : World), s.run P w ≠ .ok (.enter f args) w'
theorem noE_bind {α : Type} {x : Sem α} {k : α → Sem Next} (h : ∀ a, NoEnter (k a)) : NoEnter (x >>= k) := fun P w f args w' e => by
  rw [Sem.run_bind] at e
  cases hs : x.run P w with
  | ok a w1 => rw [hs] at e; exact h a P w1 f args w' e
  | halt y w1 => rw [hs] at e; simp [Result.andThen] at e
theorem noE_value (v : Value) : NoEnter (pure (.value v)) := fun P w f args w' e => by cases e
theorem noE_skip : NoEnter (pure .skip) := fun P w f args w' e => by cases e
theorem noE_panic : NoEnter (runtimePanic .nilDeref) := fun P w f args w' e => by simp [runtimePanic, goPanic, go_sem] at e

theorem valOp_no {o : Oper} (ho : valOp o.op = true) (ρ : Operand → Value) : NoEnter (execOp ρ o) := by
  unfold execOp
  cases hop : o.op <;> rw [hop] at ho <;> first | (cases ho; done) | skip
  all_goals dsimp only
  all_goals first
    | exact noE_value _
    | exact noE_bind fun _ => noE_value _
    | exact noE_bind fun _ => noE_skip
    | skip
  split
  · exact noE_panic
  · exact noE_panic
  · exact noE_panic
  · split
    · exact noE_panic
    · refine noE_bind fun _ => noE_bind fun _ => ?_
      split
      · exact noE_bind fun _ => noE_value _
      · exact noE_value _
    · exact noE_value _
  · exact noE_value _

variable {P : Program} {ops : Array Oper} {md : Region.Mode} {U C0 C1 : World → Prop} {F : Fence} {n : Nat}

/-- The operation that makes memory: where it comes up it yields va, and leaves a world of the second class. -/
def MakesOk (P : Program) (ops : Array Oper) (C0 C1 : World → Prop) (o : Oper) (va : Value) (a : Act) : Prop :=
  Region.wanted o (yielded ops a.tmps) = true ∧ ∀ w, C0 w → ∃ w', (execOp a.eval o).run P w = .ok (.value va) w' ∧ C1 w'
theorem MakesOk.of_put {o : Oper} {va : Value} {a : Act} {d : Option Tmp} {v : Value} (hs : ∀ cs b, o.op ≠ .select cs b) (hd : ∀ x, d = some x → x ∉ o.looksAt ops) (h : MakesOk P ops C0 C1 o va (a.put d v)) : MakesOk P ops C0 C1 o va a := by
  unfold MakesOk at *
  rw [wanted_put o a d v hd, execOp_put o hs a d v hd] at h
  exact h

def wpAny2 (P : Program) (md : Region.Mode) (ops : Array Oper) (U C0 C1 : World → Prop) (m : Nat) (om : Oper) (va : Value) (k : Nat) (R : Act → Prop) : Nat → Array Bool → Bool → Act → Prop
  | 0, _, _, _ => False
  | fuel + 1, listed, f, a => Region.ready md ops listed ≠ [] ∧ ∀ i ∈ Region.ready md ops listed,
      if i = k then fuel = 1 ∧ f = true ∧ R a
      else if i = m then f = false ∧ MakesOk P ops C0 C1 om va a ∧ wpAny2 P md ops U C0 C1 m om va k R fuel (listed.setIfInBounds i true) true (a.put om.dst va)
      else qOp P ops U i (wpAny2 P md ops U C0 C1 m om va k R fuel (listed.setIfInBounds i true) f) a

theorem wpAny2_first {m : Nat} {om : Oper} {va : Value} {k : Nat} {R : Act → Prop} {i : Nat} {oi : Oper} {v : Value} (hom : ops[m]? = some om) (hi : ops[i]? = some oi) (hik : i < k) (him : i ≠ m) (hw : waitedB md ops k = true) (hsel : ∀ (j : Nat) (o : Oper) cs b, ops[j]? = some o → o.op ≠ .select cs b) :
    ∀ (fuel : Nat) (listed : Array Bool) (f : Bool) (a : Act), Closed md ops listed →
      (∀ j oj, ops[j]? = some oj → j ≠ i → listed.getD j true = false → (∀ e ∈ oj.after, Region.binds md e = true → e.on ≠ i) → oi.apart ops oj = true) →
      i ∈ Region.ready md ops listed → YieldsIn P ops U oi v a →
      wpAny2 P md ops U C0 C1 m om va k R fuel (listed.setIfInBounds i true) f (a.put oi.dst v) → wpAny2 P md ops U C0 C1 m om va k R (fuel + 1) listed f a := by
  intro fuel
  induction fuel with
  | zero => intro listed f a _ _ _ _ H; exact H.elim
  | succ fuel ih =>
    intro listed f a hcl hfree hr hy H
    have h0 := (mem_ready.1 hr).1
    refine ⟨fun h => (by rw [h] at hr; cases hr), fun j hj => ?_⟩
    by_cases hji : j = i
    · subst hji
      rw [if_neg (by omega), if_neg him]
      exact hy.qOp hi H
    · obtain ⟨hjun, oj, hoj, hall⟩ := mem_ready.1 hj
      have hnot : ∀ e ∈ oj.after, Region.binds md e = true → e.on ≠ i := fun e he hb heq => by
        have h1 := hall e he hb
        rw [heq] at h1
        rcases Nat.lt_or_ge i listed.size with h' | h'
        · simp [h'] at h0 h1; rw [h0] at h1; cases h1
        · simp [Array.getElem?_eq_none h'] at h1
      have hap := hfree j oj hoj hji hjun hnot
      have hfree' : ∀ k ok, ops[k]? = some ok → k ≠ i → (listed.setIfInBounds j true).getD k true = false →
          (∀ e ∈ ok.after, Region.binds md e = true → e.on ≠ i) → oi.apart ops ok = true := fun k ok hk hki hun hno => by
        refine hfree k ok hk hki ?_ hno
        by_cases hjk : j = k
        · subst hjk; exact hjun
        · rw [getD_set_ne true hjk] at hun; exact hun
      have hH := H.2 j (ready_mono hj hji)
      by_cases hjk : j = k
      · subst hjk
        have h1 := all_listed hw hcl hj i hik
        rcases Nat.lt_or_ge i listed.size with h' | h'
        · simp [h'] at h0 h1; rw [h0] at h1; cases h1
        · simp [Array.getElem?_eq_none h'] at h1
      · rw [if_neg hjk] at hH ⊢
        by_cases hjm : j = m
        · subst hjm
          rw [hom] at hoj
          cases hoj
          rw [if_pos rfl] at hH ⊢
          obtain ⟨p1, p2, p3⟩ := Oper.apart_spec hap
          obtain ⟨hf, hok, hrest⟩ := hH
          refine ⟨hf, hok.of_put (fun cs b => hsel j om cs b hom) p1, ?_⟩
          have hy' : YieldsIn P ops U oi v (a.put om.dst va) := hy.of_same (execOp_put oi (fun cs b => hsel i oi cs b hi) a om.dst va p3) (wanted_put oi a om.dst va p3)
          refine ih (listed.setIfInBounds j true) true (a.put om.dst va) (hcl.set hj) hfree' (ready_mono hr (Ne.symm hji)) hy' ?_
          rw [Array.setIfInBounds_comm _ _ hji, ← Act.put_comm a v va p2]
          exact hrest
        · rw [if_neg hjm] at hH ⊢
          have h2 := qOp_put hoj hap (fun cs b => hsel i oi cs b hi) (fun cs b => hsel j oj cs b hoj) hy hH
          refine qOp_mono (fun a' h3 => ih (listed.setIfInBounds j true) f a' (hcl.set hj) hfree' (ready_mono hr (Ne.symm hji)) h3.1 ?_) h2
          rw [Array.setIfInBounds_comm _ _ hji]
          exact h3.2

def lexTo2 (md : Region.Mode) (ops : Array Oper) : Nat → Nat → Array Bool → Bool
  | 0, p, listed => Region.ready md ops listed == [p] && Region.ready md ops (listed.setIfInBounds p true) == [p + 1]
  | fuel + 1, p, listed => (Region.ready md ops listed).contains p && Region.free md ops listed p && lexTo2 md ops fuel (p + 1) (listed.setIfInBounds p true)

theorem wpAny2_lex {m : Nat} {om : Oper} {va : Value} {R : Act → Prop} (hom : ops[m]? = some om) (hs : Region.noSelect ops = true) (hw : waitedB md ops (m + 1) = true) : ∀ (l : List Oper) (p : Nat) (listed : Array Bool) (a : Act), Closed md ops listed → p + l.length = m → (∀ j, j < l.length → l[j]? = ops[p + j]?) →
    lexTo2 md ops l.length p listed = true → wpQuiet P ops U (fun a' => MakesOk P ops C0 C1 om va a' ∧ R (a'.put om.dst va)) l a → wpAny2 P md ops U C0 C1 m om va (m + 1) R (l.length + 3) listed false a
  | [], p, listed, a, _, hp, _, hB, h => by
    have hp' : p = m := by simpa using hp
    subst hp'
    simp only [List.length_nil, lexTo2, Bool.and_eq_true, beq_iff_eq] at hB
    obtain ⟨hB1, hB2⟩ := hB
    obtain ⟨h1, h2⟩ : MakesOk P ops C0 C1 om va a ∧ R (a.put om.dst va) := h
    refine ⟨by rw [hB1]; simp, fun i hi => ?_⟩
    rw [hB1] at hi
    have hi' := List.mem_singleton.1 hi
    subst hi'
    rw [if_neg (by omega), if_pos rfl]
    refine ⟨rfl, h1, ⟨by rw [hB2]; simp, fun j hj => ?_⟩⟩
    rw [hB2] at hj
    have hj' := List.mem_singleton.1 hj
    rw [if_pos hj']
    exact ⟨rfl, rfl, h2⟩
  | o :: l, p, listed, a, hcl, hp, hl, hB, h => by
    have h0 : ops[p]? = some o := by simpa using (hl 0 (by simp)).symm
    simp only [List.length_cons, lexTo2, Bool.and_eq_true] at hB
    obtain ⟨⟨hr, hf⟩, hB'⟩ := hB
    have hst : qOp P ops U p (wpQuiet P ops U (fun a' => MakesOk P ops C0 C1 om va a' ∧ R (a'.put om.dst va)) l) a := by unfold qOp; simp only [h0]; exact h
    obtain ⟨v, hy, hK⟩ := yieldsIn_of_qOp h0 hst
    have hr' : p ∈ Region.ready md ops listed := by simpa using hr
    have hpm : p < m := by simp at hp; omega
    exact wpAny2_first hom h0 (by omega) (by omega) hw (Region.noSelect_spec hs) (l.length + 3) listed false a hcl (Region.free_spec h0 hf) hr' hy
      (wpAny2_lex hom hs hw l (p + 1) _ _ (hcl.set hr') (by simp at hp; omega) (fun j hj => by have := hl (j + 1) (by simpa using hj); simpa [Nat.add_assoc, Nat.add_comm 1 j] using this) hB' hK)

theorem wpIn_of_quietV (hF : ∀ f, F.fn f) {o : Oper} (hd : ∀ c, o.op ≠ .defer c) (hv : valOp o.op = true) {a : Act} {K : Act → Prop} {K' : Act → World → Prop} {Q' : Exit → Act → World → Prop} {w : World} (hw : U w) (h : ∀ a, K a → K' a w)
    (hh : o.quiet P a U K) : o.wpIn F n P a w K' Q' := by
  obtain ⟨v, h1, h2⟩ := hh
  have h3 := h1 w hw
  have hno := valOp_no hv a.eval P w
  unfold Oper.quietAt at h3
  unfold Oper.wpIn
  refine ⟨fun f _ => hF f, ?_⟩
  rw [Oper.semAt_eq _ _ _ hd]
  generalize (execOp a.eval o).run P w = r at *
  cases r with
  | ok n w' =>
    cases n <;> simp only [Oper.quietUpon] at h3 <;> simp only [Oper.uponIn]
    case value u =>
      obtain ⟨e1, e2⟩ := h3
      rw [e1, e2]
      exact h _ h2
    case skip =>
      obtain ⟨e1, e2⟩ := h3
      rw [e1, ← e2]
      exact h _ h2
    case enter f args => exact absurd rfl (hno f args w')
  | halt x w' => simp only [Oper.quietUpon] at h3

theorem all_but {md : Region.Mode} {ops : Array Oper} {listed : Array Bool} {k : Nat} (hk : ∀ i, i < k → listed.getD i false = true) {j : Nat} (hj : j ∈ Region.ready md ops listed) : k ≤ j := by
  refine Decidable.byContradiction fun hn => ?_
  have h1 := hk j (by omega)
  have h0 := (mem_ready.1 hj).1
  rcases Nat.lt_or_ge j listed.size with h' | h'
  · simp [h'] at h0 h1; rw [h0] at h1; cases h1
  · simp [Array.getElem?_eq_none h'] at h1
theorem listed_set {listed : Array Bool} {k : Nat} (hk : ∀ i, i < k → listed.getD i false = true) (hs : k < listed.size) : ∀ i, i < k + 1 → (listed.setIfInBounds k true).getD i false = true := fun i hi => by
  by_cases e : i = k
  · subst e; simp [hs]
  · rw [getD_set_ne false (Ne.symm e)]; exact hk i (by omega)

theorem wpAnyIn_of_2 (hF : ∀ f, F.fn f) {m : Nat} {om op' os' : Oper} {va : Value} (hsz : ops.size = m + 3) (hom : ops[m]? = some om) (hop : ops[m + 1]? = some op') (hos : ops[m + 2]? = some os') (hd : ∀ (i : Nat) (o : Oper), ops[i]? = some o → ∀ c, o.op ≠ .defer c) (hv : ∀ (i : Nat) (o : Oper), ops[i]? = some o → i ≠ m → i ≠ m + 1 → valOp o.op = true)
    (hw : waitedB md ops (m + 1) = true) (haft : ∀ e ∈ os'.after, e.on < m + 2) (hU0 : ∀ w, C0 w → U w) (hU1 : ∀ w, C1 w → U w) (hwait : ∃ e ∈ os'.after, Region.binds md e = true ∧ e.on = m + 1) {R : Act → Prop} {Q' : Exit → Act → World → Prop}
    (hR : ∀ a w, C1 w → R a → wpListIn F n P ops Q' [op', os'] a w) :
    ∀ (fuel : Nat) (listed : Array Bool) (f : Bool) (a : Act) (w : World), Closed md ops listed → listed.size = m + 3 → (if f then C1 w else C0 w) → wpAny2 P md ops U C0 C1 m om va (m + 1) R fuel listed f a → wpAnyIn F n P md ops Q' fuel listed a w
  | 0, _, _, _, _, _, _, _, h => h.elim
  | fuel + 1, listed, f, a, w, hcl, hls, hC, h => ⟨fun h0 => absurd h0 h.1, fun i hi => by
      have hh := h.2 i hi
      by_cases hik : i = m + 1
      · subst hik
        rw [if_pos rfl] at hh
        obtain ⟨rfl, rfl, hRa⟩ := hh
        have hlist := hR a w hC hRa
        have hall := all_listed hw hcl hi
        have hall2 := listed_set hall (by omega)
        have hsready : m + 2 ∈ Region.ready md ops (listed.setIfInBounds (m + 1) true) := by
          refine mem_ready.2 ⟨?_, os', hos, fun e he _ => hall2 e.on (haft e he)⟩
          rw [getD_set_ne true (by omega)]
          refine Decidable.byContradiction fun hn => ?_
          have hlisted : listed.getD (m + 2) false = true := by
            have hlt : m + 2 < listed.size := by omega
            simp [hlt] at hn ⊢
            exact hn
          have hon : ∃ e ∈ os'.after, Region.binds md e = true ∧ e.on = m + 1 := hwait
          obtain ⟨e, he, hb, hone⟩ := hon
          have h2 := hcl (m + 2) os' hos hlisted e he hb
          rw [hone] at h2
          have h3 := (mem_ready.1 hi).1
          have hlt : m + 1 < listed.size := by omega
          simp [hlt] at h2 h3
          rw [h2] at h3
          cases h3
        have hlast : ∀ a' w', wpListIn F n P ops Q' [os'] a' w' → wpAnyIn F n P md ops Q' 1 (listed.setIfInBounds (m + 1) true) a' w' := fun a' w' hl => by
          refine ⟨fun h0 => ?_, fun j hj => ?_⟩
          · rw [h0] at hsready; cases hsready
          · have h1 := all_but hall2 hj
            obtain ⟨_, oj, hoj, _⟩ := mem_ready.1 hj
            have h2 := (Array.getElem?_eq_some_iff.1 hoj).1
            have hj' : j = m + 2 := by omega
            subst hj'
            have hend : ∀ a'' w'', Q' .normal a'' w'' → wpAnyIn F n P md ops Q' 0 ((listed.setIfInBounds (m + 1) true).setIfInBounds (m + 2) true) a'' w'' := fun a'' w'' hq => by
              refine ⟨List.eq_nil_iff_forall_not_mem.2 fun x hx => ?_, hq⟩
              have h3 := all_but (listed_set hall2 (by simp; omega)) hx
              obtain ⟨_, ox, hox, _⟩ := mem_ready.1 hx
              have h4 := (Array.getElem?_eq_some_iff.1 hox).1
              omega
            refine wpOpIn_mono hend ?_
            unfold wpOpIn
            rw [hos]
            exact hl
        refine wpOpIn_mono hlast ?_
        unfold wpOpIn
        rw [hop]
        exact hlist
      · rw [if_neg hik] at hh
        by_cases him : i = m
        · subst him
          rw [if_pos rfl] at hh
          obtain ⟨rfl, ⟨hwant, hrun⟩, hrest⟩ := hh
          unfold wpOpIn
          rw [hom]
          simp only
          rw [if_pos hwant]
          obtain ⟨w', hr, hC1⟩ := hrun w hC
          unfold Oper.wpIn
          refine ⟨fun f _ => hF f, ?_⟩
          rw [Oper.semAt_eq _ _ _ (hd i om hom), hr]
          exact wpAnyIn_of_2 hF hsz hom hop hos hd hv hw haft hU0 hU1 hwait hR fuel _ true _ w' (hcl.set hi) (by simpa using hls) hC1 hrest
        · rw [if_neg him] at hh
          have hUw : U w := by
            cases f with
            | true => exact hU1 w hC
            | false => exact hU0 w hC
          unfold qOp at hh
          unfold wpOpIn
          split
          · rename_i ho
            simp only [ho] at hh
            exact wpAnyIn_of_2 hF hsz hom hop hos hd hv hw haft hU0 hU1 hwait hR fuel _ f _ _ (hcl.set hi) (by simpa using hls) hC hh
          · rename_i o ho
            simp only [ho] at hh
            split
            · rename_i hw'
              simp only [hw', if_true] at hh
              exact wpIn_of_quietV hF (hd i o ho) (hv i o ho him hik) hUw (fun a' hk => wpAnyIn_of_2 hF hsz hom hop hos hd hv hw haft hU0 hU1 hwait hR fuel _ f a' w (hcl.set hi) (by simpa using hls) hC hk) hh
            · rename_i hw'
              simp only [hw'] at hh
              exact ⟨fun f _ => hF f, wpAnyIn_of_2 hF hsz hom hop hos hd hv hw haft hU0 hU1 hwait hR fuel _ f _ _ (hcl.set hi) (by simpa using hls) hC hh⟩⟩

/-- What is asked of such a region, by its text. -/
def tailB (T : List Oper) (m : Nat) : Bool :=
  decide (T.length = m + 3) && noDefer T && Region.noSelect T.toArray && waitedB .any T.toArray (m + 1) && lexTo2 .any T.toArray m 0 (Array.replicate (m + 3) false) &&
  (List.range (m + 3)).all (fun i => decide (i = m) || decide (i = m + 1) || ((T[i]?).map fun o => valOp o.op).getD false) &&
  ((T[m + 2]?).map fun o => o.after.all (fun e => decide (e.on < m + 2)) && o.after.any (fun e => Region.binds .any e && e.on == m + 1)).getD false

theorem wpIn_tail (hF : ∀ f, F.fn f) {id : Nat} {Q : Exit → Act → World → Prop} {a : Act} {w w1 : World} {T : List Oper} (m : Nat) {om op' os' : Oper} {va : Value} (hT : T = T.take m ++ [om, op', os']) (hB : tailB T m = true) (hm : P.follows .mixedOrders = true)
    (Y : Nat → World) (hY0 : ∀ n, ∃ i, w.drewN n = Y i) (hY1 : ∀ n, ∃ i, w1.drewN n = Y i)
    (h : wpQuiet P T.toArray (fun w' => ∃ i, w' = Y i) (fun a' => MakesOk P T.toArray (fun w' => ∃ n, w' = w.drewN n) (fun w' => ∃ n, w' = w1.drewN n) om va a' ∧ ∀ w', (∃ n, w' = w1.drewN n) → wpListIn F n P T.toArray Q [op', os'] (a'.put om.dst va) w') (T.take m) a) : (Code.region id T.toArray true).wpIn F n P Q a w := by
  unfold tailB at hB
  simp only [Bool.and_eq_true] at hB
  obtain ⟨⟨⟨⟨⟨⟨b1, b2⟩, b3⟩, b4⟩, b5⟩, b6⟩, b7⟩ := hB
  have hlen : T.length = m + 3 := of_decide_eq_true b1
  have htl : (T.take m).length = m := by rw [List.length_take]; omega
  have hgm : T.toArray[m]? = some om := by
    rw [List.getElem?_toArray, hT, List.getElem?_append_right (by omega), htl, Nat.sub_self]; rfl
  have hgp : T.toArray[m + 1]? = some op' := by
    rw [List.getElem?_toArray, hT, List.getElem?_append_right (by omega), htl, Nat.add_sub_cancel_left]; rfl
  have hgs : T.toArray[m + 2]? = some os' := by
    rw [List.getElem?_toArray, hT, List.getElem?_append_right (by omega), htl, Nat.add_sub_cancel_left]; rfl
  have hgs' : T[m + 2]? = some os' := by rw [← List.getElem?_toArray]; exact hgs
  rw [hgs'] at b7
  simp only [Option.map_some, Option.getD_some, Bool.and_eq_true, Array.all_eq_true_iff_forall_mem, Array.any_eq_true', decide_eq_true_eq, beq_iff_eq] at b7
  refine wpIn_region_any hm (wpAnyIn_of_2 (C0 := fun w' => ∃ n, w' = w.drewN n) (C1 := fun w' => ∃ n, w' = w1.drewN n) (U := fun w' => ∃ i, w' = Y i) (va := va)
    (R := fun a' => ∀ w', (∃ n, w' = w1.drewN n) → wpListIn F n P T.toArray Q [op', os'] a' w') hF (by simpa using hlen) hgm hgp hgs (fun i o ho => noDefer_at b2 (by have := Array.mem_of_getElem? ho; simpa using this)) (fun i o ho h1 h2 => ?_) b4 b7.1
    (fun w' ⟨n, e⟩ => by obtain ⟨i, hi⟩ := hY0 n; exact ⟨i, e.trans hi⟩) (fun w' ⟨n, e⟩ => by obtain ⟨i, hi⟩ := hY1 n; exact ⟨i, e.trans hi⟩) b7.2 (fun a' w' hw' hr => hr w' hw') _ _ false _ _ (closed_none _) (by simpa using hlen) ⟨1, rfl⟩ ?_)
  · have hi := (Array.getElem?_eq_some_iff.1 ho).1
    have h3 := List.all_eq_true.1 b6 i (List.mem_range.2 (by simpa [hlen] using hi))
    rw [List.getElem?_toArray] at ho
    rw [ho, decide_eq_false h1, decide_eq_false h2] at h3
    simpa using h3
  · have hx := wpAny2_lex (P := P) (md := .any) (U := fun w' => ∃ i, w' = Y i) (C0 := fun w' => ∃ n, w' = w.drewN n) (C1 := fun w' => ∃ n, w' = w1.drewN n) (va := va) (R := fun a' => ∀ w', (∃ n, w' = w1.drewN n) → wpListIn F n P T.toArray Q [op', os'] a' w') hgm b3 b4 (T.take m) 0 (Array.replicate (m + 3) false) a (closed_none _) (by omega)
      (fun j hj => by rw [htl] at hj; rw [Nat.zero_add, List.getElem?_toArray, List.getElem?_take, if_pos hj]) (by rw [htl]; exact b5) h
    rw [htl] at hx
    simpa [hlen] using hx
end Go.Proofs.YthlghokgknkpaaaGreatDoor
