/- The contracts of layer 9's 'great' and of Seek. -/
import Derived.Test.YtfgggfddehgigaaBK8
namespace Go.Proofs.Ytfgggfddehgigaa
open Go.RowKit

/-- What great tells. -/
def GrPost (w : World) (l : List Pr) (e : Ending) (w' : World) : Prop := ∃ g : Bool, e = .returned (.bool g) ∧ (g = false → ¬ (60 < l.length ∧ l.length ≤ 4096)) ∧ Below w.heap.size w w'
set_option maxRecDepth 100000 in
set_option maxHeartbeats 4000000 in
theorem great_any (v : Value) (l : List Pr) (w : World) (hP : PReads w v l) :
    Calls Try.prog 6 #[v] w fun e w' => GrPost w l e w' := by
  obtain ⟨a, cap, rfl, hcap, hm, h3⟩ := hP
  unfold maxLen at hm
  have H3 : Hid _ := h3
  clear h3
  go_enter Try.func6, Try.ntmps6
  by_cases g1 : (60 : Int) < (l.length : Int)
  · by_cases g2 : (l.length : Int) ≤ 4096
    · go_wp2_with fail
      go_ret
      exact ⟨true, rfl, (fun h => nomatch h), Below.refl _ _⟩
    · by_cases g3 : (5000 : Int) < (l.length : Int)
      · go_wp2_with fail
        go_ret
        exact ⟨true, rfl, (fun h => nomatch h), Below.refl _ _⟩
      · go_wp2_with fail
        go_loopw [3] (fun i wr => ∃ k : Nat, k ≤ l.length ∧ i = .int .i64 (k : Int) ∧ wr = w) (fun i _ => l.length - (intOf i).toNat)
        case atStart => exact ⟨0, by omega, rfl, rfl⟩
        case round =>
          obtain ⟨k, hk, rfl, rfl⟩ := hrel
          by_cases hlt : k < l.length
          · obtain ⟨bA, oA, rfl, hbA, hA⟩ := H3.out.resolve_left (fun h => by rw [h] at hlt; simp at hlt)
            obtain ⟨kv, vv, c0, c1, r0, r1⟩ := hA k hlt
            obtain ⟨ak, ck, rfl, hmk⟩ := r0.form
            obtain ⟨av, cv, rfl, hmv⟩ := r1.form
            unfold maxLen at hmk hmv
            obtain ⟨nk, HNK⟩ := hid_ex l[k].1.length
            obtain ⟨nv, HNV⟩ := hid_ex l[k].2.length
            rw [← HNK.out] at c0 hmk
            rw [← HNV.out] at c1 hmv
            clear hA r0 r1 HNK HNV
            go_wp2_with fail
            all_goals first
              | (go_ret
                 exact ⟨true, rfl, (fun h => nomatch h), Below.refl _ _⟩)
              | (go_roundw
                 case rel => exact ⟨k + 1, by omega, by go_num, by first | rfl | trivial⟩
                 case measure => simp [intOf]; omega)
          · go_wp2_with fail
            go_ret
            exact ⟨false, rfl, (fun _ h => by omega), Below.refl _ _⟩
  · have g3 : ¬ (5000 : Int) < (l.length : Int) := by omega
    go_wp2_with fail
    go_loopw [3] (fun i wr => ∃ k : Nat, k ≤ l.length ∧ i = .int .i64 (k : Int) ∧ wr = w) (fun i _ => l.length - (intOf i).toNat)
    case atStart => exact ⟨0, by omega, rfl, rfl⟩
    case round =>
      obtain ⟨k, hk, rfl, rfl⟩ := hrel
      by_cases hlt : k < l.length
      · obtain ⟨bA, oA, rfl, hbA, hA⟩ := H3.out.resolve_left (fun h => by rw [h] at hlt; simp at hlt)
        obtain ⟨kv, vv, c0, c1, r0, r1⟩ := hA k hlt
        obtain ⟨ak, ck, rfl, hmk⟩ := r0.form
        obtain ⟨av, cv, rfl, hmv⟩ := r1.form
        unfold maxLen at hmk hmv
        obtain ⟨nk, HNK⟩ := hid_ex l[k].1.length
        obtain ⟨nv, HNV⟩ := hid_ex l[k].2.length
        rw [← HNK.out] at c0 hmk
        rw [← HNV.out] at c1 hmv
        clear hA r0 r1 HNK HNV
        go_wp2_with fail
        all_goals first
          | (go_ret
             exact ⟨true, rfl, (fun h => nomatch h), Below.refl _ _⟩)
          | (go_roundw
             case rel => exact ⟨k + 1, by omega, by go_num, by first | rfl | trivial⟩
             case measure => simp [intOf]; omega)
      · go_wp2_with fail
        go_ret
        exact ⟨false, rfl, (fun _ h => by omega), Below.refl _ _⟩
end Go.Proofs.Ytfgggfddehgigaa
