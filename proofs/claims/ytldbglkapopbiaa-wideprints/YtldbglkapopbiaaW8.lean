/- The contract of wide.Parse. -/
import Derived.Test.YtldbglkapopbiaaW7
namespace Go.Proofs.Ytldbglkapopbiaa
open Go.RowKit

theorem wrap_hi (n : Int) : wrap64 (n / 18446744073709551616) = hi n := by unfold wrap64 hi; rfl

/-- The number that a formed text tells, with its sign. -/
def numS (l : List UInt8) (neg : Bool) : Int := if neg = true then -(numOf l : Int) else (numOf l : Int)

set_option maxRecDepth 100000 in
set_option maxHeartbeats 1000000 in
theorem parse_bad (s : ByteArray) (hs : s.size ≤ maxLen) (hf : ¬ Formed (cutL s.data.toList).1 (cutL s.data.toList).2) (w : World) :
    Calls Try.prog 16 #[.string s] w fun e w' => e = .returned (.tuple #[.agg #[.int .i64 0, .int .u64 0], .int .i64 3]) ∧ Below w.heap.size w w' := by
  obtain ⟨t, ht, hts, hcut⟩ := cut_any s hs (w.alloc (.cells #[.int .i64 0, .int .u64 0] 24))
  rw [← ht] at hf
  have HF : Hid (¬ Formed t.data.toList (cutL s.data.toList).2) := hf
  clear hf ht
  generalize (cutL s.data.toList).2 = neg at *
  have HC : Hid _ := hcut
  clear hcut
  go_enter Try.func16, Try.ntmps16
  go_wp2_with fail
  refine Calls.mono HC.out ?_
  rintro e w' ⟨rfl, rfl⟩
  go_wp2_with fail
  refine (formed_any t neg hts _).mono ?_
  rintro e w' ⟨he, rfl⟩
  obtain rfl : e = .returned (.bool false) := by
    rcases he with ⟨h, _⟩ | ⟨_, h⟩
    · exact absurd h HF.out
    · exact h
  clear he
  go_wp2_with fail
  refine bodyPost_ret (v := .tuple #[.agg #[.int .i64 0, .int .u64 0], .int .i64 3]) (by simp [results, Try.results16, go_sem]) rfl ⟨rfl, ?_⟩
  exact (Below.refl _ _).alloc (by simp) _

theorem bl_cell {w2 w3 : World} {o : Obj} {a i : Nat} {v : Option Value} (hb : Below (w2.alloc o).heap.size (w2.alloc o) w3) (ha : a < w2.heap.size) (h : w2.cell? ⟨a, i, none⟩ = v) : w3.cell? ⟨a, i, none⟩ = v := by
  rw [hb.cell (p := ⟨a, i, none⟩) (by simp; omega), World.cell?_alloc_lt w2 o ⟨a, i, none⟩ ha]; exact h
theorem bl_frozen {w2 w3 : World} {o : Obj} {a i : Nat} (hb : Below (w2.alloc o).heap.size (w2.alloc o) w3) (ha : a < w2.heap.size) (h : w2.frozen? ⟨a, i, none⟩ = false) : w3.frozen? ⟨a, i, none⟩ = false := by
  rw [hb.frozen (p := ⟨a, i, none⟩) (by simp; omega), World.frozen?_alloc_past (hn := ha)]; exact h
theorem hi_zero : hi 0 = 0 := by unfold hi; omega
theorem lo_zero : lo 0 = 0 := by unfold lo; omega
theorem minus_zero (w : World) : Calls Try.prog 12 #[.agg #[.int .i64 0, .int .u64 0]] w fun e w' => e = .returned (.agg #[.int .i64 0, .int .u64 0]) ∧ Below w.heap.size w w' := by
  have h := minus_any 0 w
  rw [Int.neg_zero, hi_zero, lo_zero] at h
  exact h

set_option maxRecDepth 100000 in
set_option maxHeartbeats 1000000 in
theorem parse_big (s : ByteArray) (hs : s.size ≤ maxLen) (hf : Formed (cutL s.data.toList).1 (cutL s.data.toList).2) (hn : 340282366920938463463374607431768211456 ≤ numOf (cutL s.data.toList).1) (w : World) :
    Calls Try.prog 16 #[.string s] w fun e w' => e = .returned (.tuple #[.agg #[.int .i64 0, .int .u64 0], .int .i64 11]) ∧ Below w.heap.size w w' := by
  obtain ⟨t, ht, hts, hcut⟩ := cut_any s hs (w.alloc (.cells #[.int .i64 0, .int .u64 0] 24))
  rw [← ht] at hf hn
  have HC : Hid _ := hcut
  have HF : Hid _ := hf
  have HD : Hid _ := hf.2
  clear hcut hs hf ht
  have HN : Hid _ := hn
  clear hn
  generalize (cutL s.data.toList).2 = neg at *
  go_enter Try.func16, Try.ntmps16
  go_wp2_with fail
  refine Calls.mono HC.out ?_
  rintro e w' ⟨rfl, rfl⟩
  go_wp2_with fail
  refine (formed_any t _ hts _).mono ?_
  rintro e w' ⟨he, rfl⟩
  obtain rfl : e = .returned (.bool true) := by
    rcases he with ⟨_, h⟩ | ⟨h, _⟩
    · exact h
    · exact absurd HF.out h
  clear he
  go_wp2_with fail
  refine (gathered_over t HD.out hts HN.out _).mono ?_
  rintro e w2 ⟨rfl, hbl⟩
  have hsz : w.heap.size < w2.heap.size := by have := hbl.size; simp at this; omega
  have c0 := hbl.cell (p := ⟨w.heap.size, 0, none⟩) (by simp)
  have c1 := hbl.cell (p := ⟨w.heap.size, 1, none⟩) (by simp)
  have f0 := hbl.frozen (p := ⟨w.heap.size, 0, none⟩) (by simp)
  have f1 := hbl.frozen (p := ⟨w.heap.size, 1, none⟩) (by simp)
  simp [go_sem] at c0 c1 f0 f1
  have HB : Hid (Below w.heap.size w w2) := ((Below.refl _ _).alloc (by simp) _).trans (hbl.mono (by simp))
  clear hbl
  cases neg
  · go_wp2_with fail
    refine bodyPost_ret (v := .tuple #[.agg #[.int .i64 0, .int .u64 0], .int .i64 11]) (by simp [results, Try.results16, go_sem, *]) rfl ⟨rfl, ?_⟩
    exact ((HB.out.setCell (by simp) _).setCell (by simp) _).alloc (by simp [World.setCell]; omega) _
  · go_wp2_with fail
    refine (minus_zero _).mono ?_
    rintro e w3 ⟨rfl, hb3⟩
    have hsz3 : w2.heap.size < w3.heap.size := by have := hb3.size; simp at this; omega
    have d0 := bl_cell hb3 hsz c0
    have d1 := bl_cell hb3 hsz c1
    have g0 := bl_frozen hb3 hsz f0
    have g1 := bl_frozen hb3 hsz f1
    have p0 := hb3.cell (p := ⟨w2.heap.size, 0, none⟩) (by simp)
    have p1 := hb3.cell (p := ⟨w2.heap.size, 1, none⟩) (by simp)
    have q0 := hb3.frozen (p := ⟨w2.heap.size, 0, none⟩) (by simp)
    have q1 := hb3.frozen (p := ⟨w2.heap.size, 1, none⟩) (by simp)
    simp [go_sem] at p0 p1 q0 q1
    have hnb : ¬ w2.heap.size = w.heap.size := by omega
    have hnb' : ¬ w.heap.size = w2.heap.size := by omega
    have HB3 : Hid (Below w.heap.size w w3) := (HB.out.alloc (by omega) _).trans (hb3.mono (by simp; omega))
    clear hb3
    go_wp2_with fail
    refine bodyPost_ret (v := .tuple #[.agg #[.int .i64 0, .int .u64 0], .int .i64 11]) (by simp [results, Try.results16, go_sem, *]) rfl ⟨rfl, ?_⟩
    exact (((HB3.out.setCell (by simp; omega) _).setCell (by simp; omega) _).setCell (by simp) _).setCell (by simp) _

set_option maxRecDepth 100000 in
set_option maxHeartbeats 1000000 in
theorem parse_pos (s : ByteArray) (hs : s.size ≤ maxLen) (hf : Formed (cutL s.data.toList).1 (cutL s.data.toList).2) (n : Nat) (hn : numOf (cutL s.data.toList).1 = n) (h1 : n < 340282366920938463463374607431768211456) (h2 : (n : Int) < 170141183460469231731687303715884105728) (hb : (cutL s.data.toList).2 = false) (w : World) :
    Calls Try.prog 16 #[.string s] w fun e w' => e = .returned (.tuple #[.agg #[.int .i64 (hi ((n : Int))), .int .u64 (lo ((n : Int)))], .int .i64 0]) ∧ Below w.heap.size w w' := by
  obtain ⟨t, ht, hts, hcut⟩ := cut_any s hs (w.alloc (.cells #[.int .i64 0, .int .u64 0] 24))
  rw [← ht] at hf hn
  have HC : Hid _ := hcut
  have HF : Hid _ := hf
  have HD : Hid _ := hf.2
  clear hcut hs hf ht
  have HN : Hid _ := hn
  clear hn
  rw [hb] at *
  have hlt : decide (hi ((n : Int)) < 0) = false := by have hn2 := h2; unfold hi; simp; omega
  have hwh := wrap_hi (n : Int)
  have HL : Hid ((n : Int) % 18446744073709551616 = lo n) := by unfold Hid lo; rfl
  clear hb
  go_enter Try.func16, Try.ntmps16
  go_wp2_with fail
  refine Calls.mono HC.out ?_
  rintro e w' ⟨rfl, rfl⟩
  go_wp2_with fail
  refine (formed_any t _ hts _).mono ?_
  rintro e w' ⟨he, rfl⟩
  obtain rfl : e = .returned (.bool true) := by
    rcases he with ⟨_, h⟩ | ⟨h, _⟩
    · exact h
    · exact absurd HF.out h
  clear he
  go_wp2_with fail
  have hg := gathered_fit t HD.out hts (by rw [HN.out]; omega) (w.alloc (.cells #[.int .i64 0, .int .u64 0] 24))
  rw [HN.out] at hg
  refine hg.mono ?_
  clear hg
  rw [HL.out]
  rintro e w2 ⟨rfl, hbl⟩
  have hsz : w.heap.size < w2.heap.size := by have := hbl.size; simp at this; omega
  have c0 := hbl.cell (p := ⟨w.heap.size, 0, none⟩) (by simp)
  have c1 := hbl.cell (p := ⟨w.heap.size, 1, none⟩) (by simp)
  have f0 := hbl.frozen (p := ⟨w.heap.size, 0, none⟩) (by simp)
  have f1 := hbl.frozen (p := ⟨w.heap.size, 1, none⟩) (by simp)
  simp [go_sem] at c0 c1 f0 f1
  have HB : Hid (Below w.heap.size w w2) := ((Below.refl _ _).alloc (by simp) _).trans (hbl.mono (by simp))
  clear hbl
  obtain ⟨hh, HHH⟩ : ∃ hh, Hid (hi (n : Int) = hh) := ⟨_, rfl⟩
  rw [HHH.out] at hwh hlt
  clear h1 h2
  go_wp2_with fail
  refine bodyPost_ret (v := .tuple #[.agg #[.int .i64 hh, .int .u64 (lo ((n : Int)))], .int .i64 0]) (by simp [results, Try.results16, go_sem, *]) rfl ⟨by rw [← HHH.out], ?_⟩
  exact ((HB.out.setCell (by simp) _).setCell (by simp) _).alloc (by simp [World.setCell]; omega) _

set_option maxRecDepth 100000 in
set_option maxHeartbeats 1000000 in
theorem parse_pos_wide (s : ByteArray) (hs : s.size ≤ maxLen) (hf : Formed (cutL s.data.toList).1 (cutL s.data.toList).2) (n : Nat) (hn : numOf (cutL s.data.toList).1 = n) (h1 : n < 340282366920938463463374607431768211456) (h2 : 170141183460469231731687303715884105728 ≤ (n : Int)) (hb : (cutL s.data.toList).2 = false) (w : World) :
    Calls Try.prog 16 #[.string s] w fun e w' => e = .returned (.tuple #[.agg #[.int .i64 0, .int .u64 0], .int .i64 11]) ∧ Below w.heap.size w w' := by
  obtain ⟨t, ht, hts, hcut⟩ := cut_any s hs (w.alloc (.cells #[.int .i64 0, .int .u64 0] 24))
  rw [← ht] at hf hn
  have HC : Hid _ := hcut
  have HF : Hid _ := hf
  have HD : Hid _ := hf.2
  clear hcut hs hf ht
  have HN : Hid _ := hn
  clear hn
  rw [hb] at *
  have hlt : decide (hi ((n : Int)) < 0) = true := by have hn2 := h2; unfold hi; simp; omega
  have hwh := wrap_hi (n : Int)
  have HL : Hid ((n : Int) % 18446744073709551616 = lo n) := by unfold Hid lo; rfl
  clear hb
  go_enter Try.func16, Try.ntmps16
  go_wp2_with fail
  refine Calls.mono HC.out ?_
  rintro e w' ⟨rfl, rfl⟩
  go_wp2_with fail
  refine (formed_any t _ hts _).mono ?_
  rintro e w' ⟨he, rfl⟩
  obtain rfl : e = .returned (.bool true) := by
    rcases he with ⟨_, h⟩ | ⟨h, _⟩
    · exact h
    · exact absurd HF.out h
  clear he
  go_wp2_with fail
  have hg := gathered_fit t HD.out hts (by rw [HN.out]; omega) (w.alloc (.cells #[.int .i64 0, .int .u64 0] 24))
  rw [HN.out] at hg
  refine hg.mono ?_
  clear hg
  rw [HL.out]
  rintro e w2 ⟨rfl, hbl⟩
  have hsz : w.heap.size < w2.heap.size := by have := hbl.size; simp at this; omega
  have c0 := hbl.cell (p := ⟨w.heap.size, 0, none⟩) (by simp)
  have c1 := hbl.cell (p := ⟨w.heap.size, 1, none⟩) (by simp)
  have f0 := hbl.frozen (p := ⟨w.heap.size, 0, none⟩) (by simp)
  have f1 := hbl.frozen (p := ⟨w.heap.size, 1, none⟩) (by simp)
  simp [go_sem] at c0 c1 f0 f1
  have HB : Hid (Below w.heap.size w w2) := ((Below.refl _ _).alloc (by simp) _).trans (hbl.mono (by simp))
  clear hbl
  obtain ⟨hh, HHH⟩ : ∃ hh, Hid (hi (n : Int) = hh) := ⟨_, rfl⟩
  rw [HHH.out] at hwh hlt
  clear h1 h2
  go_wp2_with fail
  refine bodyPost_ret (v := .tuple #[.agg #[.int .i64 0, .int .u64 0], .int .i64 11]) (by simp [results, Try.results16, go_sem, *]) rfl ⟨rfl, ?_⟩
  exact ((HB.out.setCell (by simp) _).setCell (by simp) _).alloc (by simp [World.setCell]; omega) _

set_option maxRecDepth 100000 in
set_option maxHeartbeats 1000000 in
theorem parse_neg (s : ByteArray) (hs : s.size ≤ maxLen) (hf : Formed (cutL s.data.toList).1 (cutL s.data.toList).2) (n : Nat) (hn : numOf (cutL s.data.toList).1 = n) (h1 : n < 340282366920938463463374607431768211456) (h2 : 1 ≤ n ∧ (n : Int) ≤ 170141183460469231731687303715884105728) (hb : (cutL s.data.toList).2 = true) (w : World) :
    Calls Try.prog 16 #[.string s] w fun e w' => e = .returned (.tuple #[.agg #[.int .i64 (hi (-(n : Int))), .int .u64 (lo (-(n : Int)))], .int .i64 0]) ∧ Below w.heap.size w w' := by
  obtain ⟨t, ht, hts, hcut⟩ := cut_any s hs (w.alloc (.cells #[.int .i64 0, .int .u64 0] 24))
  rw [← ht] at hf hn
  have HC : Hid _ := hcut
  have HF : Hid _ := hf
  have HD : Hid _ := hf.2
  clear hcut hs hf ht
  have HN : Hid _ := hn
  clear hn
  rw [hb] at *
  have hlt : decide (hi (-(n : Int)) < 0) = true := by have hn2 := h2; unfold hi; simp; omega
  have hwh := wrap_hi (n : Int)
  have HL : Hid ((n : Int) % 18446744073709551616 = lo n) := by unfold Hid lo; rfl
  clear hb
  go_enter Try.func16, Try.ntmps16
  go_wp2_with fail
  refine Calls.mono HC.out ?_
  rintro e w' ⟨rfl, rfl⟩
  go_wp2_with fail
  refine (formed_any t _ hts _).mono ?_
  rintro e w' ⟨he, rfl⟩
  obtain rfl : e = .returned (.bool true) := by
    rcases he with ⟨_, h⟩ | ⟨h, _⟩
    · exact h
    · exact absurd HF.out h
  clear he
  go_wp2_with fail
  have hg := gathered_fit t HD.out hts (by rw [HN.out]; omega) (w.alloc (.cells #[.int .i64 0, .int .u64 0] 24))
  rw [HN.out] at hg
  refine hg.mono ?_
  clear hg
  rw [HL.out]
  rintro e w2 ⟨rfl, hbl⟩
  have hsz : w.heap.size < w2.heap.size := by have := hbl.size; simp at this; omega
  have c0 := hbl.cell (p := ⟨w.heap.size, 0, none⟩) (by simp)
  have c1 := hbl.cell (p := ⟨w.heap.size, 1, none⟩) (by simp)
  have f0 := hbl.frozen (p := ⟨w.heap.size, 0, none⟩) (by simp)
  have f1 := hbl.frozen (p := ⟨w.heap.size, 1, none⟩) (by simp)
  simp [go_sem] at c0 c1 f0 f1
  have HB : Hid (Below w.heap.size w w2) := ((Below.refl _ _).alloc (by simp) _).trans (hbl.mono (by simp))
  clear hbl
  go_wp2_with fail
  refine (minus_any (n : Int) _).mono ?_
  rintro e w3 ⟨rfl, hb3⟩
  have hsz3 : w2.heap.size < w3.heap.size := by have := hb3.size; simp at this; omega
  have d0 := bl_cell hb3 hsz c0
  have d1 := bl_cell hb3 hsz c1
  have g0 := bl_frozen hb3 hsz f0
  have g1 := bl_frozen hb3 hsz f1
  have p0 := hb3.cell (p := ⟨w2.heap.size, 0, none⟩) (by simp)
  have p1 := hb3.cell (p := ⟨w2.heap.size, 1, none⟩) (by simp)
  have q0 := hb3.frozen (p := ⟨w2.heap.size, 0, none⟩) (by simp)
  have q1 := hb3.frozen (p := ⟨w2.heap.size, 1, none⟩) (by simp)
  simp [go_sem] at p0 p1 q0 q1
  have hnb : ¬ w2.heap.size = w.heap.size := by omega
  have hnb' : ¬ w.heap.size = w2.heap.size := by omega
  have HB3 : Hid (Below w.heap.size w w3) := (HB.out.alloc (by omega) _).trans (hb3.mono (by simp; omega))
  clear hb3
  go_wp2_with fail
  refine bodyPost_ret (v := .tuple #[.agg #[.int .i64 (hi (-(n : Int))), .int .u64 (lo (-(n : Int)))], .int .i64 0]) (by simp [results, Try.results16, go_sem, *]) rfl ⟨rfl, ?_⟩
  exact (((HB3.out.setCell (by simp; omega) _).setCell (by simp; omega) _).setCell (by simp) _).setCell (by simp) _

set_option maxRecDepth 100000 in
set_option maxHeartbeats 1000000 in
theorem parse_neg_wide (s : ByteArray) (hs : s.size ≤ maxLen) (hf : Formed (cutL s.data.toList).1 (cutL s.data.toList).2) (n : Nat) (hn : numOf (cutL s.data.toList).1 = n) (h1 : n < 340282366920938463463374607431768211456) (h2 : 170141183460469231731687303715884105728 < (n : Int)) (hb : (cutL s.data.toList).2 = true) (w : World) :
    Calls Try.prog 16 #[.string s] w fun e w' => e = .returned (.tuple #[.agg #[.int .i64 0, .int .u64 0], .int .i64 11]) ∧ Below w.heap.size w w' := by
  obtain ⟨t, ht, hts, hcut⟩ := cut_any s hs (w.alloc (.cells #[.int .i64 0, .int .u64 0] 24))
  rw [← ht] at hf hn
  have HC : Hid _ := hcut
  have HF : Hid _ := hf
  have HD : Hid _ := hf.2
  clear hcut hs hf ht
  have HN : Hid _ := hn
  clear hn
  rw [hb] at *
  have hlt : decide (hi (-(n : Int)) < 0) = false := by have hn2 := h2; unfold hi; simp; omega
  have hwh := wrap_hi (n : Int)
  have HL : Hid ((n : Int) % 18446744073709551616 = lo n) := by unfold Hid lo; rfl
  clear hb
  go_enter Try.func16, Try.ntmps16
  go_wp2_with fail
  refine Calls.mono HC.out ?_
  rintro e w' ⟨rfl, rfl⟩
  go_wp2_with fail
  refine (formed_any t _ hts _).mono ?_
  rintro e w' ⟨he, rfl⟩
  obtain rfl : e = .returned (.bool true) := by
    rcases he with ⟨_, h⟩ | ⟨h, _⟩
    · exact h
    · exact absurd HF.out h
  clear he
  go_wp2_with fail
  have hg := gathered_fit t HD.out hts (by rw [HN.out]; omega) (w.alloc (.cells #[.int .i64 0, .int .u64 0] 24))
  rw [HN.out] at hg
  refine hg.mono ?_
  clear hg
  rw [HL.out]
  rintro e w2 ⟨rfl, hbl⟩
  have hsz : w.heap.size < w2.heap.size := by have := hbl.size; simp at this; omega
  have c0 := hbl.cell (p := ⟨w.heap.size, 0, none⟩) (by simp)
  have c1 := hbl.cell (p := ⟨w.heap.size, 1, none⟩) (by simp)
  have f0 := hbl.frozen (p := ⟨w.heap.size, 0, none⟩) (by simp)
  have f1 := hbl.frozen (p := ⟨w.heap.size, 1, none⟩) (by simp)
  simp [go_sem] at c0 c1 f0 f1
  have HB : Hid (Below w.heap.size w w2) := ((Below.refl _ _).alloc (by simp) _).trans (hbl.mono (by simp))
  clear hbl
  go_wp2_with fail
  refine (minus_any (n : Int) _).mono ?_
  rintro e w3 ⟨rfl, hb3⟩
  have hsz3 : w2.heap.size < w3.heap.size := by have := hb3.size; simp at this; omega
  have d0 := bl_cell hb3 hsz c0
  have d1 := bl_cell hb3 hsz c1
  have g0 := bl_frozen hb3 hsz f0
  have g1 := bl_frozen hb3 hsz f1
  have p0 := hb3.cell (p := ⟨w2.heap.size, 0, none⟩) (by simp)
  have p1 := hb3.cell (p := ⟨w2.heap.size, 1, none⟩) (by simp)
  have q0 := hb3.frozen (p := ⟨w2.heap.size, 0, none⟩) (by simp)
  have q1 := hb3.frozen (p := ⟨w2.heap.size, 1, none⟩) (by simp)
  simp [go_sem] at p0 p1 q0 q1
  have hnb : ¬ w2.heap.size = w.heap.size := by omega
  have hnb' : ¬ w.heap.size = w2.heap.size := by omega
  have HB3 : Hid (Below w.heap.size w w3) := (HB.out.alloc (by omega) _).trans (hb3.mono (by simp; omega))
  clear hb3
  go_wp2_with fail
  refine bodyPost_ret (v := .tuple #[.agg #[.int .i64 0, .int .u64 0], .int .i64 11]) (by simp [results, Try.results16, go_sem, *]) rfl ⟨rfl, ?_⟩
  exact (((HB3.out.setCell (by simp; omega) _).setCell (by simp; omega) _).setCell (by simp) _).setCell (by simp) _

end Go.Proofs.Ytldbglkapopbiaa
