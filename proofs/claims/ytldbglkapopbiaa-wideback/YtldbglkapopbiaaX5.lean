/- The contracts of both Reads, at any bytes. -/
import Derived.Test.YtldbglkapopbiaaX4
import Derived.Test.YtldbglkapopbiaaCZ
namespace Go.Proofs.Ytldbglkapopbiaa
open Go.RowKit

def zsOf (l : List UInt8) : List Int := l.map fun x => (x.toNat : Int)
/-- What any bytes tell. -/
def rdA (l : List UInt8) : Int := if l.length = 16 then IntKind.i64.wrap (beval ((zsOf l).take 8)) else 0
def rdB (l : List UInt8) : Int := if l.length = 16 then beval ((zsOf l).drop 8) else 0
def rdE (l : List UInt8) : Int := if l.length < 16 then 10 else if 16 < l.length then 2 else 0
theorem zsOf_cell (l : List UInt8) (j : Nat) (h : j < l.length) : bc l[j] = .int .u8 ((zsOf l).getD j 0) := by
  unfold bc zsOf; simp [h]
theorem zsOf_bd (l : List UInt8) : ∀ x ∈ zsOf l, 0 ≤ x ∧ x ≤ 255 := by
  intro x hx
  unfold zsOf at hx
  obtain ⟨y, _, rfl⟩ := List.mem_map.1 hx
  have := y.toNat_lt
  omega
set_option maxRecDepth 100000 in
set_option maxHeartbeats 2000000 in
theorem wideRead_any (v : Value) (l : List UInt8) (w : World) (h : Reads w v l) :
    Calls Try.prog 20 #[v] w fun e w' => e = .returned (.tuple #[.agg #[.int .i64 (rdA l), .int .u64 (rdB l)], .int .i64 (rdE l)]) ∧ Below w.heap.size w w' := by
  by_cases h16 : l.length = 16
  · rcases h with ⟨rfl, _⟩ | ⟨b, off, cap, rfl, h2, h3, h4, h5, h6⟩
    · simp at h16
    · have k := wideRead16 b off cap (zsOf l) (by unfold zsOf; simpa using h16) (zsOf_bd l) (by omega) h4 w h5 (fun i hi => by rw [← zsOf_cell l i (by omega)]; exact h6 i (by omega))
      unfold rdA rdB rdE
      rw [if_pos h16, if_pos h16, if_neg (by omega), if_neg (by omega), h16]
      exact k
  · obtain ⟨a, cap, rfl, hm⟩ := h.form
    unfold maxLen at hm
    unfold rdA rdB rdE
    rw [if_neg h16, if_neg h16]
    clear h
    generalize l.length = n at *
    by_cases hlt : n < 16
    · rw [if_pos hlt]
      have hlt' : (n : Int) < 16 := by omega
      go_enter Try.func20, Try.ntmps20
      go_wp2_with fail
      refine bodyPost_ret (v := .tuple #[.agg #[.int .i64 0, .int .u64 0], .int .i64 10]) (by simp [results, Try.results20, go_sem, *]) rfl ⟨rfl, (Below.refl _ _).alloc (Nat.le_refl _) _⟩
    · have hgt : 16 < n := by omega
      rw [if_neg hlt, if_pos hgt]
      have hlt' : ¬ (n : Int) < 16 := by omega
      have hgt' : (16 : Int) < (n : Int) := by omega
      go_enter Try.func20, Try.ntmps20
      go_wp2_with fail
      refine bodyPost_ret (v := .tuple #[.agg #[.int .i64 0, .int .u64 0], .int .i64 2]) (by simp [results, Try.results20, go_sem, *]) rfl ⟨rfl, (Below.refl _ _).alloc (Nat.le_refl _) _⟩
set_option maxRecDepth 100000 in
set_option maxHeartbeats 2000000 in
theorem refRead_any (v : Value) (l : List UInt8) (w : World) (h : Reads w v l) :
    Calls Try.prog 21 #[v] w fun e w' => e = .returned (.tuple #[.agg #[.int .i64 (rdA l), .int .u64 (rdB l)], .int .i64 (rdE l)]) ∧ Below w.heap.size w w' := by
  by_cases h16 : l.length = 16
  · rcases h with ⟨rfl, _⟩ | ⟨b, off, cap, rfl, h2, h3, h4, h5, h6⟩
    · simp at h16
    · have k := refRead16 b off cap (zsOf l) (by unfold zsOf; simpa using h16) (zsOf_bd l) w h5 (fun i hi => by rw [← zsOf_cell l i (by omega)]; exact h6 i (by omega))
      unfold rdA rdB rdE
      rw [if_pos h16, if_pos h16, if_neg (by omega), if_neg (by omega), h16]
      exact k
  · obtain ⟨a, cap, rfl, hm⟩ := h.form
    unfold maxLen at hm
    unfold rdA rdB rdE
    rw [if_neg h16, if_neg h16]
    clear h
    generalize l.length = n at *
    by_cases hlt : n < 16
    · rw [if_pos hlt]
      have hlt' : (n : Int) < 16 := by omega
      go_enter Try.func21, Try.ntmps21
      go_wp2_with fail
      refine bodyPost_ret (v := .tuple #[.agg #[.int .i64 0, .int .u64 0], .int .i64 10]) (by simp [results, Try.results21, go_sem, *]) rfl ⟨rfl, (Below.refl _ _).alloc (Nat.le_refl _) _⟩
    · have hgt : 16 < n := by omega
      rw [if_neg hlt, if_pos hgt]
      have hlt' : ¬ (n : Int) < 16 := by omega
      have hgt' : (16 : Int) < (n : Int) := by omega
      go_enter Try.func21, Try.ntmps21
      go_wp2_with fail
      refine bodyPost_ret (v := .tuple #[.agg #[.int .i64 0, .int .u64 0], .int .i64 2]) (by simp [results, Try.results21, go_sem, *]) rfl ⟨rfl, (Below.refl _ _).alloc (Nat.le_refl _) _⟩
end Go.Proofs.Ytldbglkapopbiaa
