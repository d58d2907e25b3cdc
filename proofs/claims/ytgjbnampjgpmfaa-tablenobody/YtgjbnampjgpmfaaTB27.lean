/- TNw, joined. -/
import Derived.Test.YtgjbnampjgpmfaaTB26
/- TableNobody's walk. -/
namespace Go.Proofs.Ytgjbnampjgpmfaa
open Go.RowKit

theorem ZT.below {w w' : World} {B : Nat} (h : ZT w B) (hb : Below w.heap.size w w') : ZT w' B := (hb.block _ (Array.getElem?_eq_some_iff.1 h).1).trans h
set_option maxRecDepth 100000 in
set_option maxHeartbeats 4000000 in
theorem nobody10_walk (kv : Value) (key : List UInt8) (m : Int) (W : World) (hR : Reads W kv key) : Calls Try.prog 3 #[kv, .int .i64 m] W fun e W' => e = .returned (.bool true) ∧ Below W.heap.size W W' := by
  obtain ⟨ka, kc, rfl, hkm⟩ := hR.form
  unfold maxLen at hkm
  obtain ⟨KL, HKL⟩ : ∃ n, Hid (key.length = n) := ⟨_, rfl⟩
  rw [HKL.out] at hkm ⊢
  clear hR
  have HAg : Hid (agV aZ = agV aZ) := rfl
  go_enter Try.func3, Try.ntmps3
  by_cases hl : 1000 < KL
  · have hl' : (1000 : Int) < (KL : Int) := by omega
    go_wp2_with fail
    refine (alive10_any W).mono ?_
    rintro e w1 ⟨rfl, hb1⟩
    go_wp2_with fail
    go_ret
    exact ⟨rfl, hb1⟩
  · have hl' : ¬ (1000 : Int) < (KL : Int) := by omega
    obtain ⟨W0, HW0⟩ := hid_ex (W.alloc (.cells #[.slice none 0 0, .pointer none, .int .i64 0] 30))
    have HZ0 : Hid (ZT W0 W.heap.size) := by unfold Hid; rw [HW0.out]; exact heap_alloc_new _ _
    have HB0 : Hid (Below W.heap.size W W0) := by unfold Hid; rw [HW0.out]; exact (Below.refl _ _).alloc (Nat.le_refl _) _
    go_wp2_with fail
    rw [← HW0.out]
    refine (tget_nil _ _ _ _).mono ?_
    rintro e w1 ⟨rfl, hb1⟩
    rw [agVZ]
    have HZ1 : Hid (ZT w1 W.heap.size) := HZ0.out.below hb1
    have HB1 : Hid (Below W.heap.size W w1) := HB0.out.trans (hb1.mono HB0.out.size)
    clear hb1 HW0
    go_wp2_with (refine stop_store 35 _ _ rfl ?_)
    refine Stop.of ?_
    refine wpList_storeN rfl _ _ _ rfl w1.heap.size 0 [.int .u64 0, .bool false, .int .i64 0, .int .u64 0, .int .i64 0, .int .i64 0] rfl rfl _ _ (heap_alloc_new _ _) (by simp) (by kernel_rfl) (by kernel_rfl) ?_
    intro w2 hw2
    obtain ⟨hbw2, _, _⟩ := stW_nw hw2 (by simp)
    have HZ2 : Hid (ZT w2 W.heap.size) := HZ1.out.below hbw2
    have HB2 : Hid (Below W.heap.size W w2) := HB1.out.trans (hbw2.mono HB1.out.size)
    clear hw2 hbw2
    go_wp2_with fail
    refine (tget_zero _ _ _ _ _ HZ2.out).mono ?_
    rintro e w3 ⟨rfl, hb3⟩
    rw [agVZ]
    have HZ3 : Hid (ZT w3 W.heap.size) := HZ2.out.below hb3
    have HB3 : Hid (Below W.heap.size W w3) := HB2.out.trans (hb3.mono HB2.out.size)
    clear hb3
    go_wp2_with (refine stop_store 35 _ _ rfl ?_)
    refine Stop.of ?_
    refine wpList_storeN rfl _ _ _ rfl w3.heap.size 0 [.int .u64 0, .bool false, .int .i64 0, .int .u64 0, .int .i64 0, .int .i64 0] rfl rfl _ _ (heap_alloc_new _ _) (by simp) (by kernel_rfl) (by kernel_rfl) ?_
    intro w4 hw4
    obtain ⟨hbw4, _, _⟩ := stW_nw hw4 (by simp)
    have HZ4 : Hid (ZT w4 W.heap.size) := HZ3.out.below hbw4
    have HB4 : Hid (Below W.heap.size W w4) := HB3.out.trans (hbw4.mono HB3.out.size)
    clear hw4 hbw4
    go_wp2_with fail
    refine (tends_nil _).mono ?_
    rintro e w5 ⟨rfl, hb5⟩
    have HZ5 : Hid (ZT w5 W.heap.size) := HZ4.out.below hb5
    have HB5 : Hid (Below W.heap.size W w5) := HB4.out.trans (hb5.mono HB4.out.size)
    clear hb5
    go_wp2_with fail
    refine (tends_zero _ _ HZ5.out).mono ?_
    rintro e w6 ⟨rfl, hb6⟩
    have HZ6 : Hid (ZT w6 W.heap.size) := HZ5.out.below hb6
    have HB6 : Hid (Below W.heap.size W w6) := HB5.out.trans (hb6.mono HB5.out.size)
    clear hb6
    go_wp2_with fail
    refine (alive10_any _).mono ?_
    rintro e w7 ⟨rfl, hb7⟩
    have HZ7 : Hid (ZT w7 W.heap.size) := HZ6.out.below hb7
    have HB7 : Hid (Below W.heap.size W w7) := HB6.out.trans (hb7.mono HB6.out.size)
    clear hb7
    go_wp2_with fail
    refine (tmay_nil _ _).mono ?_
    rintro e w8 ⟨rfl, rfl⟩
    go_wp2_with fail
    refine (tmay_zero _ _ _ HZ7.out).mono ?_
    rintro e w9 ⟨rfl, rfl⟩
    go_wp2_with fail
    refine (tlen_nil _).mono ?_
    rintro e wa ⟨rfl, rfl⟩
    go_wp2_with fail
    refine (tlen_zero _ _ HZ7.out).mono ?_
    rintro e wb ⟨rfl, rfl⟩
    go_wp2_with fail
    refine (tseek_nil _ _ _ _ _).mono ?_
    rintro e wc ⟨rfl, hbc⟩
    have HZc : Hid (ZT wc W.heap.size) := HZ7.out.below hbc
    have HBc : Hid (Below W.heap.size W wc) := HB7.out.trans (hbc.mono HB7.out.size)
    clear hbc
    go_wp2_with fail
    refine (tseek_zero _ _ _ _ _ _ HZc.out).mono ?_
    rintro e wd ⟨rfl, hbd⟩
    have HZd : Hid (ZT wd W.heap.size) := HZc.out.below hbd
    have HBd : Hid (Below W.heap.size W wd) := HBc.out.trans (hbd.mono HBc.out.size)
    clear hbd
    go_wp2_with fail
    refine (tall_nil _).mono ?_
    rintro e we ⟨rfl, hbe⟩
    have HZe : Hid (ZT we W.heap.size) := HZd.out.below hbe
    have HBe : Hid (Below W.heap.size W we) := HBd.out.trans (hbe.mono HBd.out.size)
    clear hbe
    go_wp2_with fail
    refine (tall_zero _ _ HZe.out).mono ?_
    rintro e wf ⟨rfl, hbf⟩
    have HBf : Hid (Below W.heap.size W wf) := HBe.out.trans (hbf.mono HBe.out.size)
    clear hbf
    go_wp2_with fail
    go_ret
    exact ⟨rfl, HBf.out⟩
end Go.Proofs.Ytgjbnampjgpmfaa
