/-
  The document's examples on maps of ints: corbellaw05.lives.
-/
import Derived.Test.YtkjnifipepiahaaDoorSwJi
import Derived.Test.YtkjnifipepiahaaDoorSwIgi
namespace Go.Proofs.YtkjnifipepiahaaDoor
open Go.RowKit Go.Shelf

def valB : Value → Bool
  | .int .i64 _ => true
  | _ => false
theorem valB_is {v : Value} (h : valB v = true) : IsV_i v := by
  unfold valB at h
  split at h
  · exact ⟨_, rfl⟩
  · cases h
/-- What Put and Delete ask of a map of ints, reckoned. -/
def saneB (M : SM) : Bool :=
  isGood M.ws.length && decide (M.ss.length = 8 * M.ws.length) && (List.range M.ws.length).all (fun g => decide (M.w g < 18446744073709551616)) && decide (M.n ≤ 1099511627776) && decide (M.t ≤ 1099511627776) &&
  (List.range M.ss.length).all (fun p => decide ((M.s p).1.size < 140737488355328) && valB (M.s p).2) &&
  (List.range M.ws.length).all (fun g => (List.range 8).all fun i => (!decide (byteN (M.w g) i = 254) || decide (1 ≤ M.t)) && (!decide (byteN (M.w g) i < 128) || decide (1 ≤ M.n))) &&
  (!decide (7 * M.ws.length ≤ M.n + M.t) || isGood M.size')
theorem saneB_is {M : SM} (h : saneB M = true) : M.Sane IsV_i := by
  unfold saneB at h
  simp only [Bool.and_eq_true, List.all_eq_true, decide_eq_true_eq, List.mem_range, Bool.or_eq_true, Bool.not_eq_true', decide_eq_false_iff_not] at h
  obtain ⟨⟨⟨⟨⟨⟨⟨h1, h2⟩, h3⟩, h4⟩, h5⟩, h6⟩, h7⟩, h8⟩ := h
  refine ⟨⟨h1, h2, h3, ⟨h4, h5⟩, fun p hp => (h6 p hp).1⟩, fun p hp => valB_is (h6 p hp).2, fun g i hg hi he => ?_, fun g i hg hi he => ?_, fun hr _ => ?_⟩
  · rcases (h7 g hg i hi).1 with h | h
    · exact absurd he h
    · exact h
  · rcases (h7 g hg i hi).2 with h | h
    · exact absurd he h
    · exact h
  · rcases h8 with h | h
    · exact absurd hr h
    · exact h

def liveK (i : Nat) : ByteArray := ⟨#[UInt8.ofNat (97 + i)]⟩
def liveM : Nat → SM
  | 0 => SM.empty 0 0 (.int .i64 0) 1
  | i + 1 => ((liveM i).put (liveK i) (.int .i64 (i : Nat)) (.int .i64 0)).2.2
def getB : Value × Bool → Bool
  | (.int .i64 9, true) => true
  | _ => false
theorem live_puts : ∀ i : Fin 8, saneB (liveM i.val) = true ∧ ((liveM i.val).put (liveK i.val) (.int .i64 (i.val : Nat)) (.int .i64 0)).1 = false ∧ ((liveM i.val).put (liveK i.val) (.int .i64 (i.val : Nat)) (.int .i64 0)).2.1 = 0 := by decide +kernel
theorem live_seven : (liveM 7).ws.length = 1 := by decide +kernel
theorem live_eight : saneB (liveM 8) = true ∧ ((liveM 8).put ⟨#[99]⟩ (.int .i64 9) (.int .i64 0)).1 = true ∧ ((liveM 8).put ⟨#[99]⟩ (.int .i64 9) (.int .i64 0)).2.1 = 0 := by decide +kernel
theorem live_nine : saneB ((liveM 8).put ⟨#[99]⟩ (.int .i64 9) (.int .i64 0)).2.2 = true ∧ getB (((liveM 8).put ⟨#[99]⟩ (.int .i64 9) (.int .i64 0)).2.2.get ⟨#[99]⟩ (.int .i64 0)) = true ∧
    ((liveM 8).put ⟨#[99]⟩ (.int .i64 9) (.int .i64 0)).2.2.n = 8 ∧ ((liveM 8).put ⟨#[99]⟩ (.int .i64 9) (.int .i64 0)).2.2.ws.length = 2 := by decide +kernel
end Go.Proofs.YtkjnifipepiahaaDoor
