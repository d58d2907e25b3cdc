/- Of frames one behind the other; crc.All. -/
import Derived.Test.YtfhjhlddbcgfeaaF3
import Derived.Test.YtfhjhlddbcgfeaaV6
import Derived.Test.YtfhjhlddbcgfeaaOB
namespace Go.Proofs.Ytfhjhlddbcgfeaa
open Go.RowKit

theorem vle_four' (n : Nat) (h : n < 4294967296) : vle (four n) = n := by
  simp only [four, vle, UInt8.toNat_ofNat']
  omega
theorem nx_frm (l m : List UInt8) (hl : l.length ≤ 65535) : nxF (frm l ++ m) = (l, l.length + 8, 0) := by
  have e1 : frm l ++ m = four l.length ++ (l ++ (four (mor 0 (four l.length ++ l)) ++ m)) := by unfold frm; simp [List.append_assoc]
  have e4 : (frm l ++ m).take 4 = four l.length := by rw [e1]; rfl
  have e5 : (frm l ++ m).drop 4 = l ++ (four (mor 0 (four l.length ++ l)) ++ m) := by rw [e1]; rfl
  have e6 : (frm l ++ m).take (4 + l.length) = four l.length ++ l := by
    have : (frm l ++ m) = (four l.length ++ l) ++ (four (mor 0 (four l.length ++ l)) ++ m) := by rw [e1]; simp [List.append_assoc]
    rw [this, List.take_append_of_le_length (by simp [four_len]), List.take_of_length_le (by simp [four_len])]
  have e7 : ((frm l ++ m).drop (4 + l.length)).take 4 = four (mor 0 (four l.length ++ l)) := by
    rw [← List.drop_drop, e5, List.drop_left]; rfl
  have hlen : (frm l ++ m).length = l.length + 8 + m.length := by rw [List.length_append, frm_len]
  unfold nxF
  rw [e4, vle_four' _ (by omega), if_neg (by omega), if_neg (by omega), if_neg (by omega), e7, vle_four' _ (mor_lt _ _), e6, if_neg (by simp), e5, List.take_left]
theorem alF_frm (k : Nat) (l m : List UInt8) (hl : l.length ≤ 65535) : alF (k + 1) (frm l ++ m) = (l, l.length + 8) :: alF k m := by
  rw [alF, nx_frm l m hl, if_pos rfl]
  show _ :: alF k ((frm l ++ m).drop (l.length + 8)) = _
  rw [← frm_len, List.drop_left]
theorem all_any (v : Value) (bs : List UInt8) (hbl : bs.length ≤ 1000000) (w : World) (hR : Reads w v bs) :
    Calls Try.prog 18 #[v] w fun e W' => ∃ (vl : Value) (xs : List Fr), e = .returned (.tuple #[vl, .int .i64 (ksum (alF (bs.length + 1) bs) : Nat)]) ∧ xs.map Fr.p = alF (bs.length + 1) bs ∧ W'.ownsRow w.heap.size 22 1 vl xs.length (xs.map Fr.v) ∧ (∀ x ∈ xs, Own W' w.heap.size x.v x.D) ∧ Below w.heap.size w W' :=
  callsIn_wide.1 (all_in 5 (by decide) v bs hbl w hR)
/-- What a list of slices holds. -/
theorem row_at {w : World} {base : Nat} {vl : Value} {xs : List Value} (h : w.ownsRow base 22 1 vl xs.length xs) (h0 : 0 < xs.length) :
    ∃ g cap, vl = .slice (some ⟨g, 0, none⟩) xs.length cap ∧ xs.length ≤ cap ∧ g < w.heap.size ∧ ∀ j (hj : j < xs.length), w.cell? ⟨g, j, none⟩ = some xs[j] := by
  have hlt := World.ownsRow.lt h
  rcases h.2 with ⟨_, h1⟩ | ⟨g, cap, cur, hv, hg, hw, hc, hm, _⟩
  · omega
  · subst hv
    refine ⟨g, cap, rfl, hc, (hlt g rfl).2, fun j hj => ?_⟩
    rw [World.ownsRow.cellAt h j (by simpa using hj)]
    simp [hj]
end Go.Proofs.Ytfhjhlddbcgfeaa
