/- The contract of the filter's places: what the function that is ranged over hands over. -/
import Derived.Test.YtgdjjpnejdedhaaFX
import Derived.Test.YtgdjjpnejdedhaaB1
import Derived.Test.YtgdjjpnejdedhaaV2
import Derived.Test.YtgdjjpnejdedhaaRT
import Derived.RangeFuncNested
import Derived.RangeFuncBound
import Derived.RangeFuncCalls
import Derived.Shelf.Abstract
import Derived.Shelf.RegionOpen
import Derived.WalkKit
import Derived.OwnWalkIn
import Derived.TacticsInMore
import Derived.LoopNIn
import Derived.LoopIn
namespace Go.Proofs.Ytgdjjpnejdedhaa
open Go.RowKit Go.Shelf
attribute [local go_sem] Oper.semAt_some

def encP (x : Nat) : Array Value := #[.int .u32 (x : Int)]
def PreP (key : List UInt8) (n h : Nat) (pre : List Nat) (x : Nat) (_ : World) : Prop := pre = plc key n pre.length ∧ x = pla key pre.length % n ∧ pre.length < h
theorem cell_al {W : World} {o : Obj} {a : Addr} {v : Value} (h : W.cell? a = some v) : (W.alloc o).cell? a = some v := by
  obtain ⟨ob, hb, _⟩ := cells_of_cell h
  have hl := (Array.getElem?_eq_some_iff.1 hb).1
  exact (((Below.refl W.heap.size W).alloc (Nat.le_refl _) o).cell hl).trans h
set_option maxRecDepth 100000 in
set_option maxHeartbeats 2000000 in
theorem places1_in (n : Nat) (_hn : 1 ≤ n) (l Bf Bk B h : Nat) (v kv : Value) (D key : List UInt8) (hD0 : 0 < D.length) (hD1 : D.length ≤ 8192) (hh : h ≤ 8) (n₀ : Nat) (J Jx : List Nat → World → Prop) (W : World) (hn0 : n₀ ≤ W.heap.size)
    (hJ : ∀ pre A B, J pre A → Below A.heap.size A B → J pre B)
    (hY : ∀ pre x W1, J pre W1 → PreP key (8 * D.length) h pre x W1 → n₀ ≤ W1.heap.size → YieldAt Fence.wide (n - 1) Try.prog l (encP x) W1 fun e W' => (e = .returned (.bool true) ∧ J (pre ++ [x]) W' ∧ Below n₀ W1 W') ∨ (e = .returned (.bool false) ∧ Jx (pre ++ [x]) W'))
    (hBf : W.cell? ⟨Bf, 0, none⟩ = some (.pointer (some ⟨B, 0, none⟩))) (hBk : W.cell? ⟨Bk, 0, none⟩ = some kv) (hB0 : W.cell? ⟨B, 0, none⟩ = some (.int .i64 (h : Int))) (hB1 : W.cell? ⟨B, 1, none⟩ = some v) (hO : Reads W v D) (hR : Reads W kv key) (h0 : J [] W) :
    CallsIn Fence.wide n Try.prog 27 #[.func (.yield l) #[] #[], .pointer (some ⟨Bf, 0, none⟩), .pointer (some ⟨Bk, 0, none⟩)] W fun e W' => (∃ v, e = .returned v) ∧ (J (plc key (8 * D.length) h) W' ∨ ∃ xs, (∃ k, k ≤ h ∧ xs = plc key (8 * D.length) k) ∧ Jx xs W') := by
  refine callsIn_of_wp Try.func27 rfl trivial ?_ rfl
  simp only [Try.ntmps27, List.size_toArray, List.length_cons, List.length_nil, Nat.reduceAdd, Nat.reduceSub, Array.replicate_succ, Array.replicate_zero, List.push_toArray, List.append_toArray, List.nil_append, List.cons_append]
  obtain ⟨a, cap, rfl, _⟩ := hO.form
  obtain ⟨ak, capk, rfl, _⟩ := hR.form
  have HJ : Hid (∀ pre A B, J pre A → Below A.heap.size A B → J pre B) := hJ
  have HY : Hid (∀ pre x W1, J pre W1 → PreP key (8 * D.length) h pre x W1 → n₀ ≤ W1.heap.size → YieldAt Fence.wide (n - 1) Try.prog l (encP x) W1 fun e W' => (e = .returned (.bool true) ∧ J (pre ++ [x]) W' ∧ Below n₀ W1 W') ∨ (e = .returned (.bool false) ∧ Jx (pre ++ [x]) W')) := hY
  have HR : Hid (Reads W (.slice ak key.length capk) key) := hR
  clear hJ hY hR hO
  gi_wp2_with fail
  refine ⟨trivial, ?_⟩
  refine (callsIn_wide.2 (sum_any _ key _ HR.out)).mono ?_
  rintro e w' ⟨rfl, hw⟩
  subst w'
  have hm := mor_lt 0 key
  gi_wp2_with fail
  refine ⟨trivial, ?_⟩
  refine (callsIn_wide.2 (more_any (mor 0 key) hm _ [1] _ (.inr ⟨W.heap.size, 0, 1, rfl, by simp, by simp, by simp [maxLen], by simp, fun j hj => by
    have : j = 0 := by simpa using hj
    subst this; simp [bc]⟩))).mono ?_
  rintro e w' ⟨rfl, hw⟩
  subst w'
  have hm2 := mor_lt (mor 0 key) [1]
  have x0 : bits .or .u32 (mor (mor 0 key) [1] : Int) 1 = (ste key : Int) := u32_or_nat _ 1 hm2 (by decide)
  have hst := ste_lt key
  have hcB0 : (W.alloc (.cells #[.int .u8 1] 5)).cell? ⟨B, 0, none⟩ = some (.int .i64 (h : Int)) := cell_al hB0
  have hcBf : (W.alloc (.cells #[.int .u8 1] 5)).cell? ⟨Bf, 0, none⟩ = some (.pointer (some ⟨B, 0, none⟩)) := cell_al hBf
  gi_wp2_with fail
  have hJ0 : J [] (W.alloc (.cells #[.int .u8 1] 5)) := HJ.out [] _ _ h0 ((Below.refl _ _).alloc (Nat.le_refl _) _)
  have hz : ((8 * D.length : Nat) : Int) ≠ 0 := by omega
  clear hcB0 hcBf hBf hBk hB0 hB1 x0 h0 hm2 HR
  gi_loopw [5, 24] (fun p i wr => ∃ k : Nat, k ≤ h ∧ i = .int .i64 (k : Int) ∧ p = .int .u32 (pla key k : Int) ∧ J (plc key (8 * D.length) k) wr ∧ n₀ ≤ wr.heap.size) (fun _ i _ => h - (intOf i).toNat)
  case atStart => exact ⟨0, by omega, rfl, by rw [pla_zero], hJ0, by simp; omega⟩
  case round =>
    obtain ⟨k, hk, rfl, rfl, hJk, hnk⟩ := hrel
    have hpl := pla_lt key k
    by_cases hlt : k < h
    · obtain ⟨fn, tmps, assign, body, hy, hRd⟩ := HY.out _ (pla key k % (8 * D.length)) _ hJk ⟨by rw [plc_len], by rw [plc_len], by rw [plc_len]; exact hlt⟩ hnk
      dsimp only [encP] at hy
      have ec : ((pla key k % (8 * D.length) : Nat) : Int) = (pla key k : Int) % (8 * (D.length : Int)) := by push_cast; rfl
      rw [ec] at hy
      have hsn : plc key (8 * D.length) k ++ [pla key k % (8 * D.length)] = plc key (8 * D.length) (k + 1) := (plc_succ _ _ _).symm
      have HSN : Hid (plc key (8 * D.length) k ++ [pla key k % (8 * D.length)] = plc key (8 * D.length) (k + 1)) := hsn
      have hps := pla_succ key k
      have HPS : Hid (((pla key k : Int) + (ste key : Int)) % 4294967296 = (pla key (k + 1) : Int)) := by unfold Hid; omega
      clear hsn hps
      gi_wp2
      refine hRd.mono ?_
      rintro e W3 (⟨rfl, hJ3, hk3⟩ | ⟨rfl, hX3⟩)
      · rw [HSN.out] at hJ3
        have hs3 := hk3.size
        clear hy hRd hk3
        gi_wp2
        go_roundw
        case rel => exact ⟨k + 1, by omega, by go_num, by rw [← HPS.out], hJ3, by omega⟩
        case measure => simp [intOf]; omega
      · rw [HSN.out] at hX3
        clear hy hRd
        gi_wp2
        refine bodyPost_ret (results_none rfl _ _ _) rfl ?_
        exact ⟨⟨_, rfl⟩, .inr ⟨_, ⟨k + 1, by omega, rfl⟩, hX3⟩⟩
    · have hkh : k = h := by omega
      subst hkh
      gi_wp2
      refine bodyPost_end (results_none rfl _ _ _) rfl ?_
      exact ⟨⟨_, rfl⟩, .inl hJk⟩
end Go.Proofs.Ytgdjjpnejdedhaa
