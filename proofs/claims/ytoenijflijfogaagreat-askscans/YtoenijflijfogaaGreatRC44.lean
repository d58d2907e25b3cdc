/- AL0, joined. -/
import Derived.Test.YtoenijflijfogaaGreatRC24
import Derived.Test.YtoenijflijfogaaGreatRC32
import Derived.Test.YtoenijflijfogaaGreatRC43
/- Layer 17: what alive asks, plainly. -/
namespace Go.Proofs.YtoenijflijfogaaGreat
open Go.RowKit

def baA : ByteArray := ⟨#[97]⟩
def dAX : List ByteArray := [⟨#[97]⟩, ⟨#[120]⟩]
def dAY : List ByteArray := [⟨#[97]⟩, ⟨#[121]⟩]
def fs17 (v u : Value) : List Fa := [⟨v, dAX, 5, 1⟩, ⟨u, dAY, 6, 2⟩]
def en2 : List En := [(kb dAX 5 0, oneF 1), (kb dAY 6 0, oneF 2)]
theorem ok17x : rightBK dAX 5 0 = true := by decide
theorem ok17y : rightBK dAY 6 0 = true := by decide
theorem rd17x : rdF (kb dAX 5 0) = some (dAX, 5, 0) := rdF_kb dAX 5 0 ok17x
theorem rd17y : rdF (kb dAY 6 0) = some (dAY, 6, 0) := rdF_kb dAY 6 0 ok17y
theorem lt17 : ltK (kb dAX 5 0) (kb dAY 6 0) := by decide
theorem may17 (v u : Value) : ∀ f ∈ fs17 v u, mayF f = true := by
  intro f hf
  rcases List.mem_cons.1 hf with rfl | hf
  · show (isT 5 && mayB dAX) = true
    decide
  · rcases List.mem_cons.1 hf with rfl | hf
    · show (isT 6 && mayB dAY) = true
      decide
    · cases hf
theorem en17 (b : Nat) (v u : Value) : enF (rl15 b) (fs17 v u) = en2 := by
  have e : (fs17 v u).map (fcE (rl15 b)) = en2 := by simp [fs17, fcE, rl15, sz15, en2]
  unfold enF
  rw [e]
  show ins (kb dAX 5 0, oneF 1) (ins (kb dAY 6 0, oneF 2) []) = _
  exact ins_lt (x := (kb dAX 5 0, oneF 1)) (y := (kb dAY 6 0, oneF 2)) lt17
theorem stp17 (b : Nat) {f : Int} (h : ¬ endF f 10 ≤ 0 - 20) : stp (rl15 b) f 0 = 0 := stp_eq (right15 b) ⟨by show (0 : Nat) < 2; omega, .inl rfl, fun j h1 h2 => by
  have h3 : j < 2 := h2
  have : j = 1 := by omega
  subst this
  exact h⟩
theorem fk17 (b : Nat) {D : List ByteArray} {f : Int} (hr : rdF (kb D f 0) = some (D, f, 0)) (h : ¬ endF f 10 ≤ 0 - 20) : fk (rl15 b) 0 (kb D f 0) = some (kb D f 0) := by
  have hf : goneB (rl15 b) 0 f = false := by
    unfold goneB
    refine decide_eq_false fun h2 => h ?_
    have h3 : endF f 10 ≤ 0 - 100 := h2
    omega
  rw [fk_of hr, hf]
  have e1 : stq (rl15 b) 0 f (0 : Int).toNat = 0 := by unfold stq; rw [stp17 b h]; rfl
  have e2 : flq (rl15 b) 0 f (0 : Int).toNat = f := by
    unfold flq; rw [e1]
    show f - f % 1 = f
    omega
  rw [e1, e2]
  rfl
theorem chk17 (b : Nat) (v u : Value) : chkF (rl15 b) 0 en2 = 0 := by
  refine chkF_of (fE_of (right15 b) (by decide) (by decide)) ?_ ?_
  · rw [← en17 b v u]; exact can_srt _
  · rw [← en17 b v u]; exact enF_fit (right15 b) (may17 v u)
theorem fold17 (b : Nat) : foldF (rl15 b) 0 en2 = en2 := by
  refine foldF_id ?_ ?_
  · rw [← en17 b (.slice none 0 0) (.slice none 0 0)]; exact can_srt _
  · intro x hx
    rcases List.mem_cons.1 hx with rfl | hx
    · exact fk17 b rd17x (by decide)
    · rcases List.mem_cons.1 hx with rfl | hx
      · exact fk17 b rd17y (by decide)
      · cases hx
def rw2 : List Rw := [⟨dAX, 5, 1, oneF 1⟩, ⟨dAY, 6, 1, oneF 2⟩]
theorem rows17 (b : Nat) : rowsE (rl15 b) 0 en2 = rw2 := by
  unfold rowsE
  rw [fold17]
  show [rowE (rl15 b) (kb dAX 5 0, oneF 1), rowE (rl15 b) (kb dAY 6 0, oneF 2)] = _
  rw [rowE_of rd17x, rowE_of rd17y]
  rfl
theorem roll17 (b : Nat) (v u : Value) : rlE (rl15 b) 0 en2 1 0 100 = 0 ∧ rlQ (rl15 b) 0 en2 1 0 100 = [⟨[baA], 0, 100, mrg (oneF 1) (oneF 2)⟩] := by
  obtain ⟨h1, h2⟩ := rlE_ok (R := rl15 b) (wm := 0) (L := en2) (mk := 1) (f := 0) (t := 100) (chk17 b v u) (by decide) (by decide)
  refine ⟨h1, ?_⟩
  rw [h2, rows17]
  show insR ⟨[baA], 0, 100, oneF 2⟩ (insR ⟨[baA], 0, 100, oneF 1⟩ []) = _
  show insR ⟨[baA], 0, 100, oneF 2⟩ [⟨[baA], 0, 100, oneF 1⟩] = _
  unfold insR
  rw [if_neg (lj_irr _), if_pos rfl]
theorem dxy : dAX ≠ dAY := by decide
theorem get17 (b : Nat) : getF dAY 6 (rowsE (rl15 b) 0 en2) = ⟨dAY, 6, 1, oneF 2⟩ := by
  rw [rows17]
  show getS dAY 6 (getS dAY 6 rwZ ⟨dAX, 5, 1, oneF 1⟩) ⟨dAY, 6, 1, oneF 2⟩ = _
  have e1 : getS dAY 6 rwZ ⟨dAX, 5, 1, oneF 1⟩ = rwZ := by unfold getS; rw [if_neg (fun h => dxy h.1)]
  rw [e1]
  unfold getS
  rw [if_pos ⟨rfl, by decide, by decide⟩]
  rfl
theorem s17 {w : World} {b : Nat} {x y : ByteArray} (hx : x.size ≤ maxLen) (hy : y.size ≤ maxLen) (h : w.heap[b]? = some (.cells #[.string x, .string y] 9)) : SReads w (.slice (some ⟨b, 0, none⟩) 2 2) [x, y] := by
  refine .inr ⟨b, 0, 2, rfl, Nat.succ_pos _, Nat.le_refl _, (show 2 ≤ maxLen by decide), (Array.getElem?_eq_some_iff.1 h).1, fun j hj => ?_, fun s hs => ?_⟩
  · have hj2 : j < 2 := hj
    rw [Go.Joins.cell_of_block h]
    match j, hj2 with
    | 0, _ => rfl
    | 1, _ => rfl
  · rcases List.mem_cons.1 hs with rfl | hs
    · exact hx
    · rcases List.mem_cons.1 hs with rfl | hs
      · exact hy
      · cases hs
theorem fs17_reads {w W : World} {v u : Value} {t : TypeId} (hv : SReads W v dAX) (hu : SReads W u dAY) (hW : W.heap[w.heap.size]? = some (.cells #[v, .int .i64 5, .int .i64 1, u, .int .i64 6, .int .i64 2] t)) : FReads W (.slice (some ⟨w.heap.size, 0, none⟩) 2 2) (fs17 v u) := by
  refine ⟨_, 2, rfl, Nat.le_refl _, (show 2 ≤ maxLen by decide), .inr ⟨w.heap.size, 0, rfl, (Array.getElem?_eq_some_iff.1 hW).1, fun j hj => ?_⟩⟩
  have hj2 : j < 2 := hj
  match j, hj2 with
  | 0, _ =>
    refine ⟨fun i hi => ?_, hv, (show FaB ⟨v, dAX, 5, 1⟩ from ⟨show (-9223372036854775808 : Int) ≤ 5 by decide, show (5 : Int) ≤ 9223372036854775807 by decide, show (-9223372036854775808 : Int) ≤ 1 by decide, show (1 : Int) ≤ 9223372036854775807 by decide⟩)⟩
    rw [Go.Joins.cell_of_block hW]
    match i, hi with
    | 0, _ => rfl
    | 1, _ => rfl
    | 2, _ => rfl
  | 1, _ =>
    refine ⟨fun i hi => ?_, hu, (show FaB ⟨u, dAY, 6, 2⟩ from ⟨show (-9223372036854775808 : Int) ≤ 6 by decide, show (6 : Int) ≤ 9223372036854775807 by decide, show (-9223372036854775808 : Int) ≤ 2 by decide, show (2 : Int) ≤ 9223372036854775807 by decide⟩)⟩
    rw [Go.Joins.cell_of_block hW]
    match i, hi with
    | 0, _ => rfl
    | 1, _ => rfl
    | 2, _ => rfl
end Go.Proofs.YtoenijflijfogaaGreat
