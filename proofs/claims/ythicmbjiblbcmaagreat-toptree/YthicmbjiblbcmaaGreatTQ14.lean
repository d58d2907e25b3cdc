/- G3, joined. -/
import Derived.Test.YthicmbjiblbcmaaGreatTQ13
import Derived.Deep.RegionHeld3
/- Rules: what a walk is told of them, and the contract of grain.Right. -/
namespace Go.Proofs.YthicmbjiblbcmaaGreat
open Go.RowKit

/-- Rules: a slice of steps (its address, length, capacity), each step's size and age, and how long something is kept. -/
structure Rl where
  a : Option Addr
  len : Nat
  cap : Nat
  sz : Nat → Int
  ag : Nat → Int
  kp : Int

/-- The steps lie in the memory of a world, below N. -/
def Lies (R : Rl) (N : Nat) (w : World) : Prop :=
  R.len ≤ maxLen ∧ N ≤ w.heap.size ∧ (R.len = 0 ∨ ∃ b off, R.a = some ⟨b, off, none⟩ ∧ b < N ∧ ∀ i, i < R.len → w.cell? ⟨b, off + i * 2, none⟩ = some (.int .i64 (R.sz i)) ∧ w.cell? ⟨b, off + i * 2 + 1, none⟩ = some (.int .i64 (R.ag i)))
theorem Lies.below {R : Rl} {N M : Nat} {w w' : World} (h : Lies R N w) (hb : Below M w w') (hN : N ≤ M) : Lies R N w' := by
  obtain ⟨h0, h1, h2⟩ := h
  have := hb.size
  refine ⟨h0, by omega, ?_⟩
  rcases h2 with h | ⟨b, off, ha, hbN, hc⟩
  · exact .inl h
  · refine .inr ⟨b, off, ha, hbN, fun i hi => ?_⟩
    obtain ⟨c0, c1⟩ := hc i hi
    exact ⟨(hb.cell (p := ⟨b, off + i * 2, none⟩) (by show b < M; omega)).trans c0, (hb.cell (p := ⟨b, off + i * 2 + 1, none⟩) (by show b < M; omega)).trans c1⟩

/-- A box of rules. -/
def RBox (R : Rl) (b : Nat) (w : World) : Prop := b < w.heap.size ∧ w.cell? ⟨b, 0, none⟩ = some (.slice R.a R.len R.cap) ∧ w.cell? ⟨b, 1, none⟩ = some (.int .i64 R.kp)
theorem RBox.below {R : Rl} {b : Nat} {w1 w2 : World} (h : RBox R b w1) (hb : Below w1.heap.size w1 w2) : RBox R b w2 := by
  obtain ⟨h0, h1, h2⟩ := h
  have := hb.size
  exact ⟨by omega, (hb.cell (p := ⟨b, 0, none⟩) h0).trans h1, (hb.cell (p := ⟨b, 1, none⟩) h0).trans h2⟩
theorem RBox.new (R : Rl) (w : World) (t : TypeId) : RBox R w.heap.size (w.alloc (.cells #[.slice R.a R.len R.cap, .int .i64 R.kp] t)) := by
  refine ⟨by simp, ?_, ?_⟩ <;> simp

/-- A step is right, behind those ahead. -/
def stepOk (R : Rl) (i : Nat) : Prop := isS (R.sz i) = true ∧ isT (R.ag i) = true ∧ (0 < i → folB (R.sz (i - 1)) (R.ag (i - 1)) (R.sz i) (R.ag i) = true)
instance (R : Rl) (i : Nat) : Decidable (stepOk R i) := by unfold stepOk; infer_instance
/-- Rules are right. -/
def RightP (R : Rl) : Prop := 1 ≤ R.len ∧ R.len ≤ 4 ∧ R.ag 0 = 0 ∧ (∀ i, i < R.len → stepOk R i) ∧ R.ag (R.len - 1) ≤ R.kp ∧ R.kp ≤ 2199023255552
instance (R : Rl) : Decidable (RightP R) := by unfold RightP; infer_instance

theorem no_step (R : Rl) (k : Nat) (hk : k < R.len) (h : ¬ stepOk R k) : decide (RightP R) = false := by
  apply decide_eq_false; rintro ⟨_, _, _, h4, _⟩; exact h (h4 k hk)

set_option maxRecDepth 100000 in
set_option maxHeartbeats 1000000 in
theorem right_many (R : Rl) (w : World) (h : R.len < 1 ∨ 4 < R.len) :
    Calls Tryz.prog 90 #[.agg #[.slice R.a R.len R.cap, .int .i64 R.kp]] w fun e w' => e = .returned (.bool (decide (RightP R))) ∧ Below w.heap.size w w' := by
  have hn : decide (RightP R) = false := by
    apply decide_eq_false; rintro ⟨h1, h2, _⟩; omega
  rw [hn]
  have h1 : decide ((R.len : Int) < 1) = decide (R.len < 1) := by by_cases h : R.len < 1 <;> simp [h] <;> omega
  have h2 : decide (4 < (R.len : Int)) = decide (4 < R.len) := by by_cases h : 4 < R.len <;> simp [h] <;> omega
  by_cases hd : R.len < 1
  · have e1 : decide ((R.len : Int) < 1) = true := by rw [h1]; simpa using hd
    clear h1 h2 hd h hn
    go_enter Tryz.func90, Tryz.ntmps90
    go_wp2_with fail
    go_ret
    exact ⟨rfl, (Below.refl _ _).alloc (by simp) _⟩
  · have e1 : decide ((R.len : Int) < 1) = false := by rw [h1]; simpa using hd
    have e2 : decide (4 < (R.len : Int)) = true := by rw [h2]; simp; omega
    clear h1 h2 hd h hn
    go_enter Tryz.func90, Tryz.ntmps90
    go_wp2_with fail
    go_ret
    exact ⟨rfl, (Below.refl _ _).alloc (by simp) _⟩

theorem held_below {w : World} {b off m k : Nat} {A B C D E F : Value} {w1 w2 : World} (hbN : b < w.heap.size) (hb : Below w1.heap.size w1 w2)
    (h : w1.cell? ⟨w.heap.size, 0, none⟩ = some A ∧ w1.cell? ⟨w.heap.size, 1, none⟩ = some B ∧ w.heap.size < w1.heap.size ∧ w1.cell? ⟨b, off + m * 2, none⟩ = some C ∧ w1.cell? ⟨b, off + m * 2 + 1, none⟩ = some D ∧ w1.cell? ⟨b, off + k * 2, none⟩ = some E ∧ w1.cell? ⟨b, off + k * 2 + 1, none⟩ = some F ∧ Below w.heap.size w w1) :
    w2.cell? ⟨w.heap.size, 0, none⟩ = some A ∧ w2.cell? ⟨w.heap.size, 1, none⟩ = some B ∧ w.heap.size < w2.heap.size ∧ w2.cell? ⟨b, off + m * 2, none⟩ = some C ∧ w2.cell? ⟨b, off + m * 2 + 1, none⟩ = some D ∧ w2.cell? ⟨b, off + k * 2, none⟩ = some E ∧ w2.cell? ⟨b, off + k * 2 + 1, none⟩ = some F ∧ Below w.heap.size w w2 := by
  obtain ⟨h1, h2, h3, h4, h5, h6, h7, h8⟩ := h
  have := hb.size
  exact ⟨(hb.cell (p := ⟨_, 0, none⟩) h3).trans h1, (hb.cell (p := ⟨_, 1, none⟩) h3).trans h2, by omega, (hb.cell (p := ⟨b, _, none⟩) (by show b < _; omega)).trans h4, (hb.cell (p := ⟨b, _, none⟩) (by show b < _; omega)).trans h5, (hb.cell (p := ⟨b, _, none⟩) (by show b < _; omega)).trans h6, (hb.cell (p := ⟨b, _, none⟩) (by show b < _; omega)).trans h7, h8.trans (hb.mono (by omega))⟩

set_option maxRecDepth 100000 in
set_option maxHeartbeats 1000000 in
theorem right_someG (R : Rl) (w : World) (h : 1 ≤ R.len) (h4 : R.len ≤ 4) (hL : Lies R w.heap.size w) :
    Calls Tryz.prog 90 #[.agg #[.slice R.a R.len R.cap, .int .i64 R.kp]] w fun e w' => e = .returned (.bool (decide (RightP R))) ∧ Below w.heap.size w w' := by
  obtain ⟨hm, _, hc⟩ := hL
  rcases hc with hc | ⟨b, off, ha, hbN, hc⟩
  · omega
  have e1 : decide ((R.len : Int) < 1) = false := by simp; omega
  have e2 : decide (4 < (R.len : Int)) = false := by simp; omega
  have c00 := (hc 0 (by omega)).1
  have c01 := (hc 0 (by omega)).2
  simp only [Nat.zero_mul, Nat.add_zero] at c00 c01
  rw [ha]
  by_cases h0 : R.ag 0 = 0
  · have e3 : (R.ag 0 == 0) = true := by simpa using h0
    have e4 : (R.ag 0 != 0) = false := by simpa using h0
    go_enter Tryz.func90, Tryz.ntmps90
    go_wp2_with fail
    go_loopw [23] (fun i wr => ∃ k : Nat, k ≤ R.len ∧ i = .int .i64 k ∧ (∀ j, j < k → stepOk R j) ∧ RBox R w.heap.size wr ∧ Below w.heap.size w wr) (fun i _ => R.len - (intOf i).toNat)
    case atStart =>
      refine ⟨0, by omega, rfl, fun j hj => by omega, ?_, (Below.refl _ _).alloc (by simp) _⟩
      rw [← ha]
      exact RBox.new R w _
    case round =>
      obtain ⟨k, hk, rfl, hok, hbx, hbel⟩ := hrel
      by_cases hlt : k < R.len
      · have q0 : wr.cell? ⟨b, off + k * 2, none⟩ = some (.int .i64 (R.sz k)) := (hbel.cell (p := ⟨b, off + k * 2, none⟩) hbN).trans (hc k hlt).1
        have q1 : wr.cell? ⟨b, off + k * 2 + 1, none⟩ = some (.int .i64 (R.ag k)) := (hbel.cell (p := ⟨b, off + k * 2 + 1, none⟩) hbN).trans (hc k hlt).2
        have hki : ((k : Int) < (R.len : Int)) := by omega
        obtain ⟨hb0, hb1, hb2⟩ := hbx
        rw [ha] at hb1
        have HB : Hid (Below w.heap.size w wr) := hbel
        have HC : Hid _ := hc
        have HO : Hid (∀ j, j < k → stepOk R j) := hok
        have H0 : Hid _ := h0
        clear hbel hc hok c00 c01 e1 e2 e3 e4 h0
        cases hS : isS (R.sz k)
        · have HN : Hid _ := no_step R k hlt (fun hh => by rw [hh.1] at hS; cases hS)
          go_wp2_with fail
          refine (isSize_any (R.sz k) _).mono ?_
          rw [hS]
          rintro e w' ⟨rfl, rfl⟩
          clear hS
          go_wp2_with fail
          go_ret
          exact ⟨by rw [HN.out]; rfl, HB.out⟩
        · cases hT : isT (R.ag k)
          · have HN : Hid _ := no_step R k hlt (fun hh => by rw [hh.2.1] at hT; cases hT)
            go_wp2_with fail
            refine (isSize_any (R.sz k) _).mono ?_
            rw [hS]
            rintro e w' ⟨rfl, rfl⟩
            clear hS
            go_wp2_with fail
            refine (isTime_any (R.ag k) _).mono ?_
            rw [hT]
            rintro e w' ⟨rfl, rfl⟩
            clear hT
            go_wp2_with fail
            go_ret
            exact ⟨by rw [HN.out]; rfl, HB.out⟩
          · rcases Nat.eq_zero_or_pos k with hk0 | hk0
            · have HK : Hid (k = 0) := hk0
              have HST : Hid (stepOk R k) := ⟨hS, hT, fun h => by omega⟩
              have hgt : decide (0 < (k : Int)) = false := by simp; omega
              clear hk0
              go_wp2_with fail
              refine (isSize_any (R.sz k) _).mono ?_
              rw [hS]
              rintro e w' ⟨rfl, rfl⟩
              clear hS
              go_wp2_with fail
              refine (isTime_any (R.ag k) _).mono ?_
              rw [hT]
              rintro e w' ⟨rfl, rfl⟩
              clear hT
              go_wp2_with fail
              refine wp_region_noPanic ?_
              refine wp_region_held_drew (S := (fun w' => RBox R w.heap.size w' ∧ Below w.heap.size w w')) (by kernel_rfl) ?_ (fun hHeld => ?_)
              · exact ⟨⟨hb0, by rw [ha]; exact hb1, hb2⟩, HB.out.drew⟩
              refine wpAnyH_take (i := 0) (v := .int .i64 k) rfl (by kernel_rfl) (by kernel_rfl) (by kernel_rfl) (fun _ _ _ h => h) (Or.inl ⟨by rfl, ?_⟩) (by assumption) ?_
              · (intro w1 hSw; (try dsimp only at hSw); go_simp)
              simp only [List.getElem_toArray, List.getElem_cons_zero, Act.put, List.setIfInBounds_toArray, List.set_cons_zero, List.set_cons_succ]
              refine wpAnyH_take (i := 1) (v := .bool false) rfl (by kernel_rfl) (by kernel_rfl) (by kernel_rfl) (fun _ _ _ h => h) (Or.inl ⟨by rfl, ?_⟩) (by assumption) ?_
              · (intro w1 hSw; (try dsimp only at hSw); go_simp; exact HK.out)
              simp only [List.getElem_toArray, List.getElem_cons_succ, List.getElem_cons_zero, Act.put, List.setIfInBounds_toArray, List.set_cons_zero, List.set_cons_succ]
              refine wpAnyH_take (i := 2) (v := .bool false) rfl (by kernel_rfl) (by kernel_rfl) (by kernel_rfl) (fun _ _ _ h => h) (Or.inl ⟨by rfl, ?_⟩) (by assumption) ?_
              · (intro w1 hSw; (try dsimp only at hSw); go_simp)
              simp only [List.getElem_toArray, List.getElem_cons_succ, List.getElem_cons_zero, Act.put, List.setIfInBounds_toArray, List.set_cons_zero, List.set_cons_succ]
              refine wpAnyH_take (i := 3) (v := undef) rfl (by kernel_rfl) (by kernel_rfl) (by kernel_rfl) (fun _ _ _ h => h) (Or.inr ⟨by rfl, rfl⟩) (by assumption) ?_
              simp only [List.getElem_toArray, List.getElem_cons_succ, List.getElem_cons_zero, Act.put, List.setIfInBounds_toArray, List.set_cons_zero, List.set_cons_succ]
              refine wpAnyH_take (i := 4) (v := undef) rfl (by kernel_rfl) (by kernel_rfl) (by kernel_rfl) (fun _ _ _ h => h) (Or.inr ⟨by rfl, rfl⟩) (by assumption) ?_
              simp only [List.getElem_toArray, List.getElem_cons_succ, List.getElem_cons_zero, Act.put, List.setIfInBounds_toArray, List.set_cons_zero, List.set_cons_succ]
              refine wpAnyH_take (i := 5) (v := undef) rfl (by kernel_rfl) (by kernel_rfl) (by kernel_rfl) (fun _ _ _ h => h) (Or.inr ⟨by rfl, rfl⟩) (by assumption) ?_
              simp only [List.getElem_toArray, List.getElem_cons_succ, List.getElem_cons_zero, Act.put, List.setIfInBounds_toArray, List.set_cons_zero, List.set_cons_succ]
              refine wpAnyH_take (i := 6) (v := undef) rfl (by kernel_rfl) (by kernel_rfl) (by kernel_rfl) (fun _ _ _ h => h) (Or.inr ⟨by rfl, rfl⟩) (by assumption) ?_
              simp only [List.getElem_toArray, List.getElem_cons_succ, List.getElem_cons_zero, Act.put, List.setIfInBounds_toArray, List.set_cons_zero, List.set_cons_succ]
              refine wpAnyH_take (i := 7) (v := undef) rfl (by kernel_rfl) (by kernel_rfl) (by kernel_rfl) (fun _ _ _ h => h) (Or.inr ⟨by rfl, rfl⟩) (by assumption) ?_
              simp only [List.getElem_toArray, List.getElem_cons_succ, List.getElem_cons_zero, Act.put, List.setIfInBounds_toArray, List.set_cons_zero, List.set_cons_succ]
              refine wpAnyH_take (i := 8) (v := undef) rfl (by kernel_rfl) (by kernel_rfl) (by kernel_rfl) (fun _ _ _ h => h) (Or.inr ⟨by rfl, rfl⟩) (by assumption) ?_
              simp only [List.getElem_toArray, List.getElem_cons_succ, List.getElem_cons_zero, Act.put, List.setIfInBounds_toArray, List.set_cons_zero, List.set_cons_succ]
              refine wpAnyH_take (i := 9) (v := undef) rfl (by kernel_rfl) (by kernel_rfl) (by kernel_rfl) (fun _ _ _ h => h) (Or.inr ⟨by rfl, rfl⟩) (by assumption) ?_
              simp only [List.getElem_toArray, List.getElem_cons_succ, List.getElem_cons_zero, Act.put, List.setIfInBounds_toArray, List.set_cons_zero, List.set_cons_succ]
              refine wpAnyH_take (i := 10) (v := undef) rfl (by kernel_rfl) (by kernel_rfl) (by kernel_rfl) (fun _ _ _ h => h) (Or.inr ⟨by rfl, rfl⟩) (by assumption) ?_
              simp only [List.getElem_toArray, List.getElem_cons_succ, List.getElem_cons_zero, Act.put, List.setIfInBounds_toArray, List.set_cons_zero, List.set_cons_succ]
              refine wpAnyH_take (i := 11) (v := undef) rfl (by kernel_rfl) (by kernel_rfl) (by kernel_rfl) (fun _ _ _ h => h) (Or.inr ⟨by rfl, rfl⟩) (by assumption) ?_
              simp only [List.getElem_toArray, List.getElem_cons_succ, List.getElem_cons_zero, Act.put, List.setIfInBounds_toArray, List.set_cons_zero, List.set_cons_succ]
              refine wpAnyH_take (i := 12) (v := undef) rfl (by kernel_rfl) (by kernel_rfl) (by kernel_rfl) (fun _ _ _ h => h) (Or.inr ⟨by rfl, rfl⟩) (by assumption) ?_
              simp only [List.getElem_toArray, List.getElem_cons_succ, List.getElem_cons_zero, Act.put, List.setIfInBounds_toArray, List.set_cons_zero, List.set_cons_succ]
              refine wpAnyH_take (i := 13) (v := undef) rfl (by kernel_rfl) (by kernel_rfl) (by kernel_rfl) (fun _ _ _ h => h) (Or.inr ⟨by rfl, rfl⟩) (by assumption) ?_
              simp only [List.getElem_toArray, List.getElem_cons_succ, List.getElem_cons_zero, Act.put, List.setIfInBounds_toArray, List.set_cons_zero, List.set_cons_succ]
              refine wpAnyH_take (i := 14) (v := undef) rfl (by kernel_rfl) (by kernel_rfl) (by kernel_rfl) (fun _ _ _ h => h) (Or.inr ⟨by rfl, rfl⟩) (by assumption) ?_
              simp only [List.getElem_toArray, List.getElem_cons_succ, List.getElem_cons_zero, Act.put, List.setIfInBounds_toArray, List.set_cons_zero, List.set_cons_succ]
              refine wpAnyH_take (i := 15) (v := undef) rfl (by kernel_rfl) (by kernel_rfl) (by kernel_rfl) (fun _ _ _ h => h) (Or.inr ⟨by rfl, rfl⟩) (by assumption) ?_
              simp only [List.getElem_toArray, List.getElem_cons_succ, List.getElem_cons_zero, Act.put, List.setIfInBounds_toArray, List.set_cons_zero, List.set_cons_succ]
              refine wpAnyH_take (i := 16) (v := .bool false) rfl (by kernel_rfl) (by kernel_rfl) (by kernel_rfl) (fun _ _ _ h => h) (Or.inl ⟨by rfl, ?_⟩) (by assumption) ?_
              · (intro w1 hSw; (try dsimp only at hSw); go_simp)
              simp only [List.getElem_toArray, List.getElem_cons_succ, List.getElem_cons_zero, Act.put, List.setIfInBounds_toArray, List.set_cons_zero, List.set_cons_succ]
              refine wpAnyH_done (by kernel_rfl) ?_ _
              refine NoPanic.normal ?_
              go_wp2_with fail
              go_roundw
              case rel =>
                refine ⟨k + 1, by omega, by go_num, fun j hj => ?_, hHeld.1, hHeld.2⟩
                have : j = k := by have := HK.out; omega
                subst this; exact HST.out
              case measure => simp [intOf]; omega
            · obtain ⟨m, hkm⟩ : ∃ m, k = m + 1 := ⟨k - 1, by omega⟩
              have EK : Hid (k = m + 1) := hkm
              have hm0 : wr.cell? ⟨b, off + m * 2, none⟩ = some (.int .i64 (R.sz m)) := (HB.out.cell (p := ⟨b, off + m * 2, none⟩) hbN).trans (HC.out m (by omega)).1
              have hm1 : wr.cell? ⟨b, off + m * 2 + 1, none⟩ = some (.int .i64 (R.ag m)) := (HB.out.cell (p := ⟨b, off + m * 2 + 1, none⟩) hbN).trans (HC.out m (by omega)).2
              have hSm := (HO.out m (by omega)).1
              have HSm : Hid _ := hSm
              have HSk : Hid _ := hS
              have HTk : Hid _ := hT
              clear hSm
              have hgt : decide (0 < (k : Int)) = true := by simp; omega
              have i0 : (0 : Int) ≤ (m : Int) := by omega
              have i1 : (m : Int) < (R.len : Int) := by omega
              have i2 : IntKind.i64.wrap ((k : Int) - 1) = (m : Int) := by rw [IntKind.wrap_i64]; omega
              have i3 : (0 : Int) < (k : Int) := by omega
              have i4 : (k : Int) ≤ 4 := by omega
              clear hkm
              go_wp2_with fail
              refine (isSize_any (R.sz k) _).mono ?_
              rw [hS]
              rintro e w' ⟨rfl, rfl⟩
              clear hS
              go_wp2_with fail
              refine (isTime_any (R.ag k) _).mono ?_
              rw [hT]
              rintro e w' ⟨rfl, rfl⟩
              clear hT
              go_wp2_with fail
              cases hF : folB (R.sz m) (R.ag m) (R.sz k) (R.ag k)
              · have HN : Hid _ := no_step R k hlt (fun hh => by have := hh.2.2 hk0; rw [show k - 1 = m by have := EK.out; omega, hF] at this; cases this)
                go_region_held3 (fun w' => w'.cell? ⟨w.heap.size, 0, none⟩ = some (.slice (some ⟨b, off, none⟩) R.len R.cap) ∧ w'.cell? ⟨w.heap.size, 1, none⟩ = some (.int .i64 R.kp) ∧ w.heap.size < w'.heap.size ∧ w'.cell? ⟨b, off + m * 2, none⟩ = some (.int .i64 (R.sz m)) ∧ w'.cell? ⟨b, off + m * 2 + 1, none⟩ = some (.int .i64 (R.ag m)) ∧ w'.cell? ⟨b, off + k * 2, none⟩ = some (.int .i64 (R.sz k)) ∧ w'.cell? ⟨b, off + k * 2 + 1, none⟩ = some (.int .i64 (R.ag k)) ∧ Below w.heap.size w w') (first | exact ⟨hb1, hb2, hb0, hm0, hm1, q0, q1, HB.out.drew⟩ | exact held_below hbN hbf (by assumption)) (first | (go_at_call 105; refine (follows_any (R.sz m) (R.ag m) (R.sz k) (R.ag k) HSm.out HSk.out _).mono ?_; rw [hF]; rintro e w' ⟨rfl, hbf⟩; clear hF))
                rename_i HZ
                go_wp2_with fail
                go_ret
                exact ⟨by rw [HN.out]; rfl, HZ.2.2.2.2.2.2.2⟩
              · have HST : Hid (stepOk R k) := ⟨HSk.out, HTk.out, fun _ => by rw [show k - 1 = m by have := EK.out; omega]; exact hF⟩
                go_region_held3 (fun w' => w'.cell? ⟨w.heap.size, 0, none⟩ = some (.slice (some ⟨b, off, none⟩) R.len R.cap) ∧ w'.cell? ⟨w.heap.size, 1, none⟩ = some (.int .i64 R.kp) ∧ w.heap.size < w'.heap.size ∧ w'.cell? ⟨b, off + m * 2, none⟩ = some (.int .i64 (R.sz m)) ∧ w'.cell? ⟨b, off + m * 2 + 1, none⟩ = some (.int .i64 (R.ag m)) ∧ w'.cell? ⟨b, off + k * 2, none⟩ = some (.int .i64 (R.sz k)) ∧ w'.cell? ⟨b, off + k * 2 + 1, none⟩ = some (.int .i64 (R.ag k)) ∧ Below w.heap.size w w') (first | exact ⟨hb1, hb2, hb0, hm0, hm1, q0, q1, HB.out.drew⟩ | exact held_below hbN hbf (by assumption)) (first | (go_at_call 105; refine (follows_any (R.sz m) (R.ag m) (R.sz k) (R.ag k) HSm.out HSk.out _).mono ?_; rw [hF]; rintro e w' ⟨rfl, hbf⟩; clear hF))
                rename_i HZ
                go_wp2_with fail
                go_roundw
                case rel =>
                  refine ⟨k + 1, by omega, by go_num, fun j hj => ?_, ⟨HZ.2.2.1, by rw [ha]; exact HZ.1, HZ.2.1⟩, HZ.2.2.2.2.2.2.2⟩
                  rcases Nat.lt_or_ge j k with h | h
                  · exact HO.out j h
                  · have : j = k := by omega
                    subst this; exact HST.out
                case measure => simp [intOf]; omega
      · have hke : k = R.len := by omega
        subst hke
        obtain ⟨m, hm'⟩ : ∃ m, R.len = m + 1 := ⟨R.len - 1, by omega⟩
        have q1 : wr.cell? ⟨b, off + m * 2 + 1, none⟩ = some (.int .i64 (R.ag m)) := (hbel.cell (p := ⟨b, off + m * 2 + 1, none⟩) hbN).trans (hc m (by omega)).2
        obtain ⟨hb0, hb1, hb2⟩ := hbx
        rw [ha] at hb1
        have HE : Hid (decide (RightP R) = (decide (R.ag m ≤ R.kp) && decide (R.kp ≤ 2199023255552))) := by
          unfold Hid
          rw [← Bool.decide_and]
          apply decide_eq_decide.2
          constructor
          · rintro ⟨_, _, _, _, h5, h6⟩; rw [hm'] at h5; exact ⟨h5, h6⟩
          · rintro ⟨h5, h6⟩; exact ⟨h, h4, h0, hok, by rw [hm']; exact h5, h6⟩
        have HB : Hid (Below w.heap.size w wr) := hbel
        clear hbel hc hok c00 c01 e1 e2 e3 e4 h0
        have hlt2 : IntKind.i64.wrap ((R.len : Int) - 1) = (m : Int) := by rw [IntKind.wrap_i64]; omega
        have i0 : (0 : Int) ≤ (m : Int) := by omega
        have i1 : (m : Int) < (R.len : Int) := by omega
        have i3 : (0 : Int) < (R.len : Int) := by omega
        have i4 : (R.len : Int) ≤ 4 := by omega
        clear hm'
        generalize g1 : decide (R.ag m ≤ R.kp) = p at HE
        generalize g2 : decide (R.kp ≤ 2199023255552) = q at HE
        cases p
        · go_wp2_with fail
          refine wp_region_noPanic ?_
          refine wp_region_held_drew (S := (fun w' => w'.cell? ⟨w.heap.size, 0, none⟩ = some (.slice (some ⟨b, off, none⟩) R.len R.cap) ∧ w'.cell? ⟨w.heap.size, 1, none⟩ = some (.int .i64 R.kp) ∧ w'.cell? ⟨b, off + m * 2 + 1, none⟩ = some (.int .i64 (R.ag m)) ∧ Below w.heap.size w w')) (by kernel_rfl) ?_ (fun hHeld => ?_)
          · exact ⟨hb1, hb2, q1, HB.out.drew⟩
          refine wpAnyH_take (i := 0) (v := .pointer (some ⟨w.heap.size, 1, none⟩)) rfl (by kernel_rfl) (by kernel_rfl) (by kernel_rfl) (fun _ _ _ h => h) (Or.inl ⟨by rfl, ?_⟩) (by assumption) ?_
          · (intro w1 hSw; (try dsimp only at hSw); go_simp)
          simp only [List.getElem_toArray, List.getElem_cons_zero, Act.put, List.setIfInBounds_toArray, List.set_cons_zero, List.set_cons_succ]
          refine wpAnyH_take (i := 1) (v := .int .i64 R.kp) rfl (by kernel_rfl) (by kernel_rfl) (by kernel_rfl) (fun _ _ _ h => h) (Or.inl ⟨by rfl, ?_⟩) (by assumption) ?_
          · (intro w1 hSw; (try dsimp only at hSw); go_simp)
          simp only [List.getElem_toArray, List.getElem_cons_succ, List.getElem_cons_zero, Act.put, List.setIfInBounds_toArray, List.set_cons_zero, List.set_cons_succ]
          refine wpAnyH_take (i := 2) (v := .pointer (some ⟨w.heap.size, 0, none⟩)) rfl (by kernel_rfl) (by kernel_rfl) (by kernel_rfl) (fun _ _ _ h => h) (Or.inl ⟨by rfl, ?_⟩) (by assumption) ?_
          · (intro w1 hSw; (try dsimp only at hSw); go_simp)
          simp only [List.getElem_toArray, List.getElem_cons_succ, List.getElem_cons_zero, Act.put, List.setIfInBounds_toArray, List.set_cons_zero, List.set_cons_succ]
          refine wpAnyH_take (i := 3) (v := .slice (some ⟨b, off, none⟩) R.len R.cap) rfl (by kernel_rfl) (by kernel_rfl) (by kernel_rfl) (fun _ _ _ h => h) (Or.inl ⟨by rfl, ?_⟩) (by assumption) ?_
          · (intro w1 hSw; (try dsimp only at hSw); go_simp)
          simp only [List.getElem_toArray, List.getElem_cons_succ, List.getElem_cons_zero, Act.put, List.setIfInBounds_toArray, List.set_cons_zero, List.set_cons_succ]
          refine wpAnyH_take (i := 4) (v := .int .i64 R.len) rfl (by kernel_rfl) (by kernel_rfl) (by kernel_rfl) (fun _ _ _ h => h) (Or.inl ⟨by rfl, ?_⟩) (by assumption) ?_
          · (intro w1 hSw; (try dsimp only at hSw); go_simp)
          simp only [List.getElem_toArray, List.getElem_cons_succ, List.getElem_cons_zero, Act.put, List.setIfInBounds_toArray, List.set_cons_zero, List.set_cons_succ]
          refine wpAnyH_take (i := 5) (v := .int .i64 m) rfl (by kernel_rfl) (by kernel_rfl) (by kernel_rfl) (fun _ _ _ h => h) (Or.inl ⟨by rfl, ?_⟩) (by assumption) ?_
          · (intro w1 hSw; (try dsimp only at hSw); go_simp)
          simp only [List.getElem_toArray, List.getElem_cons_succ, List.getElem_cons_zero, Act.put, List.setIfInBounds_toArray, List.set_cons_zero, List.set_cons_succ]
          refine wpAnyH_take (i := 6) (v := .pointer (some ⟨b, off + m * 2, none⟩)) rfl (by kernel_rfl) (by kernel_rfl) (by kernel_rfl) (fun _ _ _ h => h) (Or.inl ⟨by rfl, ?_⟩) (by assumption) ?_
          · (intro w1 hSw; (try dsimp only at hSw); go_simp)
          simp only [List.getElem_toArray, List.getElem_cons_succ, List.getElem_cons_zero, Act.put, List.setIfInBounds_toArray, List.set_cons_zero, List.set_cons_succ]
          refine wpAnyH_take (i := 7) (v := .pointer (some ⟨b, off + m * 2 + 1, none⟩)) rfl (by kernel_rfl) (by kernel_rfl) (by kernel_rfl) (fun _ _ _ h => h) (Or.inl ⟨by rfl, ?_⟩) (by assumption) ?_
          · (intro w1 hSw; (try dsimp only at hSw); go_simp)
          simp only [List.getElem_toArray, List.getElem_cons_succ, List.getElem_cons_zero, Act.put, List.setIfInBounds_toArray, List.set_cons_zero, List.set_cons_succ]
          refine wpAnyH_take (i := 8) (v := .int .i64 (R.ag m)) rfl (by kernel_rfl) (by kernel_rfl) (by kernel_rfl) (fun _ _ _ h => h) (Or.inl ⟨by rfl, ?_⟩) (by assumption) ?_
          · (intro w1 hSw; (try dsimp only at hSw); go_simp)
          simp only [List.getElem_toArray, List.getElem_cons_succ, List.getElem_cons_zero, Act.put, List.setIfInBounds_toArray, List.set_cons_zero, List.set_cons_succ]
          refine wpAnyH_take (i := 9) (v := .bool false) rfl (by kernel_rfl) (by kernel_rfl) (by kernel_rfl) (fun _ _ _ h => h) (Or.inl ⟨by rfl, ?_⟩) (by assumption) ?_
          · (intro w1 hSw; (try dsimp only at hSw); go_simp)
          simp only [List.getElem_toArray, List.getElem_cons_succ, List.getElem_cons_zero, Act.put, List.setIfInBounds_toArray, List.set_cons_zero, List.set_cons_succ]
          refine wpAnyH_take (i := 10) (v := .bool false) rfl (by kernel_rfl) (by kernel_rfl) (by kernel_rfl) (fun _ _ _ h => h) (Or.inl ⟨by rfl, ?_⟩) (by assumption) ?_
          · (intro w1 hSw; (try dsimp only at hSw); go_simp)
          simp only [List.getElem_toArray, List.getElem_cons_succ, List.getElem_cons_zero, Act.put, List.setIfInBounds_toArray, List.set_cons_zero, List.set_cons_succ]
          refine wpAnyH_take (i := 11) (v := undef) rfl (by kernel_rfl) (by kernel_rfl) (by kernel_rfl) (fun _ _ _ h => h) (Or.inr ⟨by rfl, rfl⟩) (by assumption) ?_
          simp only [List.getElem_toArray, List.getElem_cons_succ, List.getElem_cons_zero, Act.put, List.setIfInBounds_toArray, List.set_cons_zero, List.set_cons_succ]
          refine wpAnyH_take (i := 12) (v := undef) rfl (by kernel_rfl) (by kernel_rfl) (by kernel_rfl) (fun _ _ _ h => h) (Or.inr ⟨by rfl, rfl⟩) (by assumption) ?_
          simp only [List.getElem_toArray, List.getElem_cons_succ, List.getElem_cons_zero, Act.put, List.setIfInBounds_toArray, List.set_cons_zero, List.set_cons_succ]
          refine wpAnyH_take (i := 13) (v := undef) rfl (by kernel_rfl) (by kernel_rfl) (by kernel_rfl) (fun _ _ _ h => h) (Or.inr ⟨by rfl, rfl⟩) (by assumption) ?_
          simp only [List.getElem_toArray, List.getElem_cons_succ, List.getElem_cons_zero, Act.put, List.setIfInBounds_toArray, List.set_cons_zero, List.set_cons_succ]
          refine wpAnyH_take (i := 14) (v := .bool false) rfl (by kernel_rfl) (by kernel_rfl) (by kernel_rfl) (fun _ _ _ h => h) (Or.inl ⟨by rfl, ?_⟩) (by assumption) ?_
          · (intro w1 hSw; (try dsimp only at hSw); go_simp)
          simp only [List.getElem_toArray, List.getElem_cons_succ, List.getElem_cons_zero, Act.put, List.setIfInBounds_toArray, List.set_cons_zero, List.set_cons_succ]
          refine wpAnyH_take (i := 15) (v := .bool false) rfl (by kernel_rfl) (by kernel_rfl) (by kernel_rfl) (fun _ _ _ h => h) (Or.inl ⟨by rfl, ?_⟩) (by assumption) ?_
          · (intro w1 hSw; (try dsimp only at hSw); go_simp)
          simp only [List.getElem_toArray, List.getElem_cons_succ, List.getElem_cons_zero, Act.put, List.setIfInBounds_toArray, List.set_cons_zero, List.set_cons_succ]
          refine wpAnyH_done (by kernel_rfl) ?_ _
          refine NoPanic.normal ?_
          go_wp2_with fail
          go_ret
          exact ⟨by rw [HE.out]; rfl, hHeld.2.2.2⟩
        · go_wp2_with fail
          refine wp_region_noPanic ?_
          refine wp_region_held_drew (S := (fun w' => w'.cell? ⟨w.heap.size, 0, none⟩ = some (.slice (some ⟨b, off, none⟩) R.len R.cap) ∧ w'.cell? ⟨w.heap.size, 1, none⟩ = some (.int .i64 R.kp) ∧ w'.cell? ⟨b, off + m * 2 + 1, none⟩ = some (.int .i64 (R.ag m)) ∧ Below w.heap.size w w')) (by kernel_rfl) ?_ (fun hHeld => ?_)
          · exact ⟨hb1, hb2, q1, HB.out.drew⟩
          refine wpAnyH_take (i := 0) (v := .pointer (some ⟨w.heap.size, 1, none⟩)) rfl (by kernel_rfl) (by kernel_rfl) (by kernel_rfl) (fun _ _ _ h => h) (Or.inl ⟨by rfl, ?_⟩) (by assumption) ?_
          · (intro w1 hSw; (try dsimp only at hSw); go_simp)
          simp only [List.getElem_toArray, List.getElem_cons_zero, Act.put, List.setIfInBounds_toArray, List.set_cons_zero, List.set_cons_succ]
          refine wpAnyH_take (i := 1) (v := .int .i64 R.kp) rfl (by kernel_rfl) (by kernel_rfl) (by kernel_rfl) (fun _ _ _ h => h) (Or.inl ⟨by rfl, ?_⟩) (by assumption) ?_
          · (intro w1 hSw; (try dsimp only at hSw); go_simp)
          simp only [List.getElem_toArray, List.getElem_cons_succ, List.getElem_cons_zero, Act.put, List.setIfInBounds_toArray, List.set_cons_zero, List.set_cons_succ]
          refine wpAnyH_take (i := 2) (v := .pointer (some ⟨w.heap.size, 0, none⟩)) rfl (by kernel_rfl) (by kernel_rfl) (by kernel_rfl) (fun _ _ _ h => h) (Or.inl ⟨by rfl, ?_⟩) (by assumption) ?_
          · (intro w1 hSw; (try dsimp only at hSw); go_simp)
          simp only [List.getElem_toArray, List.getElem_cons_succ, List.getElem_cons_zero, Act.put, List.setIfInBounds_toArray, List.set_cons_zero, List.set_cons_succ]
          refine wpAnyH_take (i := 3) (v := .slice (some ⟨b, off, none⟩) R.len R.cap) rfl (by kernel_rfl) (by kernel_rfl) (by kernel_rfl) (fun _ _ _ h => h) (Or.inl ⟨by rfl, ?_⟩) (by assumption) ?_
          · (intro w1 hSw; (try dsimp only at hSw); go_simp)
          simp only [List.getElem_toArray, List.getElem_cons_succ, List.getElem_cons_zero, Act.put, List.setIfInBounds_toArray, List.set_cons_zero, List.set_cons_succ]
          refine wpAnyH_take (i := 4) (v := .int .i64 R.len) rfl (by kernel_rfl) (by kernel_rfl) (by kernel_rfl) (fun _ _ _ h => h) (Or.inl ⟨by rfl, ?_⟩) (by assumption) ?_
          · (intro w1 hSw; (try dsimp only at hSw); go_simp)
          simp only [List.getElem_toArray, List.getElem_cons_succ, List.getElem_cons_zero, Act.put, List.setIfInBounds_toArray, List.set_cons_zero, List.set_cons_succ]
          refine wpAnyH_take (i := 5) (v := .int .i64 m) rfl (by kernel_rfl) (by kernel_rfl) (by kernel_rfl) (fun _ _ _ h => h) (Or.inl ⟨by rfl, ?_⟩) (by assumption) ?_
          · (intro w1 hSw; (try dsimp only at hSw); go_simp)
          simp only [List.getElem_toArray, List.getElem_cons_succ, List.getElem_cons_zero, Act.put, List.setIfInBounds_toArray, List.set_cons_zero, List.set_cons_succ]
          refine wpAnyH_take (i := 6) (v := .pointer (some ⟨b, off + m * 2, none⟩)) rfl (by kernel_rfl) (by kernel_rfl) (by kernel_rfl) (fun _ _ _ h => h) (Or.inl ⟨by rfl, ?_⟩) (by assumption) ?_
          · (intro w1 hSw; (try dsimp only at hSw); go_simp)
          simp only [List.getElem_toArray, List.getElem_cons_succ, List.getElem_cons_zero, Act.put, List.setIfInBounds_toArray, List.set_cons_zero, List.set_cons_succ]
          refine wpAnyH_take (i := 7) (v := .pointer (some ⟨b, off + m * 2 + 1, none⟩)) rfl (by kernel_rfl) (by kernel_rfl) (by kernel_rfl) (fun _ _ _ h => h) (Or.inl ⟨by rfl, ?_⟩) (by assumption) ?_
          · (intro w1 hSw; (try dsimp only at hSw); go_simp)
          simp only [List.getElem_toArray, List.getElem_cons_succ, List.getElem_cons_zero, Act.put, List.setIfInBounds_toArray, List.set_cons_zero, List.set_cons_succ]
          refine wpAnyH_take (i := 8) (v := .int .i64 (R.ag m)) rfl (by kernel_rfl) (by kernel_rfl) (by kernel_rfl) (fun _ _ _ h => h) (Or.inl ⟨by rfl, ?_⟩) (by assumption) ?_
          · (intro w1 hSw; (try dsimp only at hSw); go_simp)
          simp only [List.getElem_toArray, List.getElem_cons_succ, List.getElem_cons_zero, Act.put, List.setIfInBounds_toArray, List.set_cons_zero, List.set_cons_succ]
          refine wpAnyH_take (i := 9) (v := .bool true) rfl (by kernel_rfl) (by kernel_rfl) (by kernel_rfl) (fun _ _ _ h => h) (Or.inl ⟨by rfl, ?_⟩) (by assumption) ?_
          · (intro w1 hSw; (try dsimp only at hSw); go_simp)
          simp only [List.getElem_toArray, List.getElem_cons_succ, List.getElem_cons_zero, Act.put, List.setIfInBounds_toArray, List.set_cons_zero, List.set_cons_succ]
          refine wpAnyH_take (i := 10) (v := .bool true) rfl (by kernel_rfl) (by kernel_rfl) (by kernel_rfl) (fun _ _ _ h => h) (Or.inl ⟨by rfl, ?_⟩) (by assumption) ?_
          · (intro w1 hSw; (try dsimp only at hSw); go_simp)
          simp only [List.getElem_toArray, List.getElem_cons_succ, List.getElem_cons_zero, Act.put, List.setIfInBounds_toArray, List.set_cons_zero, List.set_cons_succ]
          refine wpAnyH_take (i := 11) (v := .pointer (some ⟨w.heap.size, 1, none⟩)) rfl (by kernel_rfl) (by kernel_rfl) (by kernel_rfl) (fun _ _ _ h => h) (Or.inl ⟨by rfl, ?_⟩) (by assumption) ?_
          · (intro w1 hSw; (try dsimp only at hSw); go_simp)
          simp only [List.getElem_toArray, List.getElem_cons_succ, List.getElem_cons_zero, Act.put, List.setIfInBounds_toArray, List.set_cons_zero, List.set_cons_succ]
          refine wpAnyH_take (i := 12) (v := .int .i64 R.kp) rfl (by kernel_rfl) (by kernel_rfl) (by kernel_rfl) (fun _ _ _ h => h) (Or.inl ⟨by rfl, ?_⟩) (by assumption) ?_
          · (intro w1 hSw; (try dsimp only at hSw); go_simp)
          simp only [List.getElem_toArray, List.getElem_cons_succ, List.getElem_cons_zero, Act.put, List.setIfInBounds_toArray, List.set_cons_zero, List.set_cons_succ]
          refine wpAnyH_take (i := 13) (v := .bool q) rfl (by kernel_rfl) (by kernel_rfl) (by kernel_rfl) (fun _ _ _ h => h) (Or.inl ⟨by rfl, ?_⟩) (by assumption) ?_
          · (intro w1 hSw; (try dsimp only at hSw); go_simp)
          simp only [List.getElem_toArray, List.getElem_cons_succ, List.getElem_cons_zero, Act.put, List.setIfInBounds_toArray, List.set_cons_zero, List.set_cons_succ]
          refine wpAnyH_take (i := 14) (v := .bool q) rfl (by kernel_rfl) (by kernel_rfl) (by kernel_rfl) (fun _ _ _ h => h) (Or.inl ⟨by rfl, ?_⟩) (by assumption) ?_
          · (intro w1 hSw; (try dsimp only at hSw); go_simp)
          simp only [List.getElem_toArray, List.getElem_cons_succ, List.getElem_cons_zero, Act.put, List.setIfInBounds_toArray, List.set_cons_zero, List.set_cons_succ]
          refine wpAnyH_take (i := 15) (v := .bool q) rfl (by kernel_rfl) (by kernel_rfl) (by kernel_rfl) (fun _ _ _ h => h) (Or.inl ⟨by rfl, ?_⟩) (by assumption) ?_
          · (intro w1 hSw; (try dsimp only at hSw); go_simp)
          simp only [List.getElem_toArray, List.getElem_cons_succ, List.getElem_cons_zero, Act.put, List.setIfInBounds_toArray, List.set_cons_zero, List.set_cons_succ]
          refine wpAnyH_done (by kernel_rfl) ?_ _
          refine NoPanic.normal ?_
          go_wp2_with fail
          go_ret
          exact ⟨by rw [HE.out]; rfl, hHeld.2.2.2⟩
  · have e3 : (R.ag 0 == 0) = false := by simpa using h0
    have e4 : (R.ag 0 != 0) = true := by simpa using h0
    have hn : decide (RightP R) = false := by
      apply decide_eq_false; rintro ⟨h1, h2, h3, _⟩; exact h0 h3
    rw [hn]
    clear h0 hc hn
    go_enter Tryz.func90, Tryz.ntmps90
    go_wp2_with fail
    go_ret
    exact ⟨rfl, (Below.refl _ _).alloc (by simp) _⟩
theorem right_anyG (R : Rl) (w : World) (hL : Lies R w.heap.size w) :
    Calls Tryz.prog 90 #[.agg #[.slice R.a R.len R.cap, .int .i64 R.kp]] w fun e w' => e = .returned (.bool (decide (RightP R))) ∧ Below w.heap.size w w' := by
  by_cases h1 : 1 ≤ R.len
  · by_cases h4 : R.len ≤ 4
    · exact right_someG R w h1 h4 hL
    · exact right_many R w (by omega)
  · exact right_many R w (by omega)
end Go.Proofs.YthicmbjiblbcmaaGreat
