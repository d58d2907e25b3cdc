/- The contract of wide.Read at sixteen bytes. -/
import Derived.Test.YtldbglkapopbiaaW12
import Derived.Deep.RegionHeld3
namespace Go.Proofs.Ytldbglkapopbiaa
open Go.RowKit

theorem getD_take (l : List Int) (k i : Nat) (h : i < k) : (l.take k).getD i 0 = l.getD i 0 := by
  simp [h]
theorem getD_drop (l : List Int) (k i : Nat) : (l.drop k).getD i 0 = l.getD (k + i) 0 := by
  simp [List.getElem?_drop]

set_option maxRecDepth 100000 in
set_option maxHeartbeats 1000000 in
theorem wideRead16 (b off cap : Nat) (zs : List Int) (hl : zs.length = 16) (hz : ∀ x ∈ zs, 0 ≤ x ∧ x ≤ 255) (hcap : 16 ≤ cap) (hcap2 : cap ≤ maxLen) (w : World) (hbw : b < w.heap.size)
    (hc : ∀ i, i < 16 → w.cell? ⟨b, off + i, none⟩ = some (.int .u8 (zs.getD i 0))) :
    Calls Try.prog 20 #[.slice (some ⟨b, off, none⟩) 16 cap] w fun e w' => e = .returned (.tuple #[.agg #[.int .i64 (IntKind.i64.wrap (beval (zs.take 8))), .int .u64 (beval (zs.drop 8))], .int .i64 0]) ∧ Below w.heap.size w w' := by
  unfold maxLen at hcap2
  have HC1 : Hid (∀ i, i < 8 → ((w.alloc (.cells #[.int .i64 0, .int .u64 0] 24)).drew).cell? ⟨b, off + i, none⟩ = some (.int .u8 ((zs.take 8).getD i 0))) := by
    intro i hi
    rw [getD_take zs 8 i hi, ← hc i (by omega)]
    exact World.cell?_alloc_lt w _ ⟨b, off + i, none⟩ hbw
  have HC2 : Hid (∀ i, i < 8 → ((w.alloc (.cells #[.int .i64 0, .int .u64 0] 24)).drew).cell? ⟨b, off + 8 + i, none⟩ = some (.int .u8 ((zs.drop 8).getD i 0))) := by
    intro i hi
    rw [getD_drop zs 8 i, ← hc (8 + i) (by omega), Nat.add_assoc]
    exact World.cell?_alloc_lt w _ ⟨b, off + (8 + i), none⟩ hbw
  have HZ1 : Hid (∀ x ∈ zs.take 8, 0 ≤ x ∧ x ≤ 255) := fun x hx => hz x (List.mem_of_mem_take hx)
  have HZ2 : Hid (∀ x ∈ zs.drop 8, 0 ≤ x ∧ x ≤ 255) := fun x hx => hz x (List.mem_of_mem_drop hx)
  have HL1 : Hid ((zs.take 8).length = 8) := by unfold Hid; rw [List.length_take]; omega
  have HL2 : Hid ((zs.drop 8).length = 8) := by unfold Hid; rw [List.length_drop]; omega
  clear hc hz hl
  generalize zs.take 8 = z1 at *
  generalize zs.drop 8 = z2 at *
  have h8 : (8 : Int) ≤ (cap : Int) := by omega
  have h16 : (8 : Int) ≤ (16 : Int) := by omega
  go_enter Try.func20, Try.ntmps20
  go_wp2_with fail
  go_region_held3 (fun w' => b < w'.heap.size) ((simp; omega))
    (first
      | (go_at_call_of 35 (Value.slice (some ⟨b, off, none⟩) 8 cap); refine (wordRead_any b off cap z1 HL1.out HZ1.out _ HC1.out).mono ?_; rintro e w' ⟨rfl, rfl⟩)
      | (go_at_call 35; refine (wordRead_any b (off + 8) (cap - 8) z2 HL2.out HZ2.out _ HC2.out).mono ?_; rintro e w' ⟨rfl, rfl⟩))
  go_wp2_with fail
  refine bodyPost_ret (v := .tuple #[.agg #[.int .i64 (IntKind.i64.wrap (beval z1)), .int .u64 (beval z2)], .int .i64 0]) (by simp [results, Try.results20, go_sem]) rfl ⟨rfl, ?_⟩
  exact ((Below.refl _ _).alloc (by simp) _).drew
end Go.Proofs.Ytldbglkapopbiaa
