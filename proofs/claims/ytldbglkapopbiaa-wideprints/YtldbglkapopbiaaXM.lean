/- The contracts of the reference's Of, Minus, Times. -/
import Derived.Test.YtldbglkapopbiaaXA2
namespace Go.Proofs.Ytldbglkapopbiaa
open Go.RowKit

/-- A number's box that can be written. -/
def Nb (x : Int) (b : Nat) (w : World) : Prop := b < w.heap.size ∧ w.cell? ⟨b, 0, none⟩ = some (.int .i64 (hi x)) ∧ w.cell? ⟨b, 1, none⟩ = some (.int .u64 (lo x)) ∧ ∀ o, w.frozen? ⟨b, o, none⟩ = false
theorem Nb.below {x : Int} {b : Nat} {w1 w2 : World} (h : Nb x b w1) (hb : Below w1.heap.size w1 w2) : Nb x b w2 := by
  obtain ⟨h0, h1, h2, h3⟩ := h
  have := hb.size
  exact ⟨by omega, (hb.cell (p := ⟨b, 0, none⟩) h0).trans h1, (hb.cell (p := ⟨b, 1, none⟩) h0).trans h2, fun o => (hb.frozen (p := ⟨b, o, none⟩) h0).trans (h3 o)⟩
theorem Nb.far {x : Int} {b b' i : Nat} {u : Value} {w : World} (h : Nb x b w) (hne : b' ≠ b) : Nb x b (w.setCell ⟨b', i, none⟩ u) := by
  obtain ⟨h0, h1, h2, h3⟩ := h
  refine ⟨by simp [World.setCell]; exact h0, ?_, ?_, fun o => by rw [World.frozen?_setCell]; exact h3 o⟩
  · rw [World.cell?_setCell_other (h := by intro e; injection e with e1 _; exact hne e1)]; exact h1
  · rw [World.cell?_setCell_other (h := by intro e; injection e with e1 _; exact hne e1)]; exact h2
theorem Nb.set {x y : Int} {b : Nat} {w : World} (h : Nb x b w) : Nb y b ((w.setCell ⟨b, 0, none⟩ (.int .i64 (hi y))).setCell ⟨b, 1, none⟩ (.int .u64 (lo y))) := by
  obtain ⟨h0, h1, h2, h3⟩ := h
  refine ⟨by simp [World.setCell]; exact h0, ?_, ?_, fun o => by rw [World.frozen?_setCell, World.frozen?_setCell]; exact h3 o⟩
  · rw [World.cell?_setCell_other (h := by simp)]; exact World.cell?_setCell_same _ _ _ h1
  · have q : (w.setCell ⟨b, 0, none⟩ (.int .i64 (hi y))).cell? ⟨b, 1, none⟩ = some (.int .u64 (lo x)) := by
      rw [World.cell?_setCell_other (h := by simp)]; exact h2
    exact World.cell?_setCell_same _ _ _ q
set_option maxHeartbeats 1000000 in
theorem refOf_any (v : Int) (h1 : -9223372036854775808 ≤ v) (h2 : v ≤ 9223372036854775807) (w : World) :
    Calls Try.prog 9 #[.int .i64 v] w fun e w' => e = .returned (wv v) ∧ Below w.heap.size w w' := by
  have EL : Hid (IntKind.u64.wrap v = lo v) := by unfold Hid lo; rw [IntKind.wrap_u64]
  by_cases hv : v < 0
  · have EH : Hid (hi v = -1) := by unfold Hid hi; omega
    have b1 : decide (v < 0) = true := by simpa using hv
    clear hv h1 h2
    go_enter Try.func9, Try.ntmps9
    go_wp2_with fail
    refine bodyPost_ret (v := .agg #[.int .i64 (-1), .int .u64 (IntKind.u64.wrap v)]) (by simp [results, Try.results9, go_sem]) rfl ⟨by unfold wv; rw [EL.out, EH.out], ?_⟩
    exact ((Below.refl _ _).alloc (by simp) _).alloc (by simp) _
  · have EH : Hid (hi v = 0) := by unfold Hid hi; omega
    have b1 : decide (v < 0) = false := by simpa using hv
    clear hv h1 h2
    go_enter Try.func9, Try.ntmps9
    go_wp2_with fail
    refine bodyPost_ret (v := .agg #[.int .i64 0, .int .u64 (IntKind.u64.wrap v)]) (by simp [results, Try.results9, go_sem]) rfl ⟨by unfold wv; rw [EL.out, EH.out], ?_⟩
    exact ((Below.refl _ _).alloc (by simp) _).alloc (by simp) _
set_option maxRecDepth 100000 in
set_option maxHeartbeats 1000000 in
theorem refTimes_any (v n : Int) (h1 : -9223372036854775808 ≤ v) (h2 : v ≤ 9223372036854775807) (h3 : 0 ≤ n) (h4 : n < 18446744073709551616) (w : World) :
    Calls Try.prog 15 #[.int .i64 v, .int .u64 n] w fun e w' => e = .returned (wv (v * n)) ∧ Below w.heap.size w w' := by
  have HZ : Hid (hi 0 = 0 ∧ lo 0 = 0) := ⟨by unfold hi; omega, by unfold lo; omega⟩
  go_enter Try.func15, Try.ntmps15
  go_wp2_with fail
  refine (refOf_any v h1 h2 _).mono ?_
  rintro e w1 ⟨rfl, hb1⟩
  have HB1 : Hid (Below w.heap.size w w1) := ((Below.refl _ _).alloc (by simp) _).trans (hb1.mono (by simp))
  have hr : Nb 0 w.heap.size w1 := Nb.below ⟨by simp, by simp [go_sem, HZ.out.1], by simp [go_sem, HZ.out.2], fun o => by simp [go_sem]⟩ hb1
  have HR1 : Hid (Nb 0 w.heap.size w1) := hr
  have h0 : Hid (w.heap.size < w1.heap.size) := hr.1
  have HH : Hid (-9223372036854775808 ≤ v ∧ 0 ≤ n ∧ n < 18446744073709551616) := ⟨h1, h3, h4⟩
  clear hb1 hr h1 h2 h3 h4
  unfold wv
  go_wp2_with fail
  go_loopw [1] (fun i wr => ∃ m acc p : Int, i = .int .u64 m ∧ 0 ≤ m ∧ m < 18446744073709551616 ∧ acc + p * m = v * n ∧ Nb acc w1.heap.size wr ∧ Nb p (w1.heap.size + 1) wr ∧ Nb 0 w.heap.size wr ∧ Below w.heap.size w wr) (fun i _ => (intOf i).toNat)
  case atStart =>
    refine ⟨n, 0, v, rfl, HH.out.2.1, HH.out.2.2, by omega, ?_, ?_, ?_, ?_⟩
    · refine ⟨by simp; omega, ?_, ?_, fun o => ?_⟩ <;> simp [go_sem, World.cell?_alloc_past, HZ.out.1, HZ.out.2]
    · refine ⟨by simp, ?_, ?_, fun o => ?_⟩ <;> simp [go_sem]
    · exact HR1.out.below (((Below.refl _ _).alloc (by simp) _).alloc (by simp) _)
    · exact (HB1.out.alloc HB1.out.size _).alloc (by have := HB1.out.size; simp; omega) _
  case round =>
    obtain ⟨m, acc, p, rfl, m0, m1, he, ha, hp, hr, hbr⟩ := hrel
    have HA : Hid (Nb acc w1.heap.size wr) := ha
    have HP : Hid (Nb p (w1.heap.size + 1) wr) := hp
    have HR : Hid (Nb 0 w.heap.size wr) := hr
    have HB : Hid (Below w.heap.size w wr) := hbr
    have HE : Hid (acc + p * m = v * n) := he
    have HN : Hid (w.heap.size < w1.heap.size) := h0
    clear ha hp hr hbr he h0
    by_cases hz : m = 0
    · subst hz
      have HEE : Hid (acc = v * n) := by have := HE.out; unfold Hid; omega
      clear m0 m1 HE
      obtain ⟨a0, a1, a2, a3⟩ := HA.out
      obtain ⟨r0, r1, r2, r3⟩ := HR.out
      go_wp2_with fail
      have hs := Nb.set (y := acc) HR.out
      obtain ⟨_, s1, s2, _⟩ := hs
      refine bodyPost_ret (v := .agg #[.int .i64 (hi acc), .int .u64 (lo acc)]) (by simp [results, Try.results15, go_sem, s1, s2]) rfl ⟨by rw [← HEE.out]; rfl, ?_⟩
      exact (HB.out.setCell (p := ⟨w.heap.size, 0, none⟩) (Nat.le_refl _) _).setCell (p := ⟨w.heap.size, 1, none⟩) (Nat.le_refl _) _
    · have b0 : decide (0 < m) = true := by simp; omega
      have t1 : Int.tmod m 2 = m % 2 := Int.tmod_eq_emod_of_nonneg m0
      have t2 : Int.tdiv m 2 = m / 2 := Int.tdiv_eq_ediv_of_nonneg m0
      have HM : Hid (p * m = (p + p) * (m / 2) + p * (m % 2)) := by
        have hm : m = m / 2 + m / 2 + m % 2 := by omega
        unfold Hid
        conv => lhs; rw [hm]
        rw [Int.mul_add, Int.mul_add, Int.add_mul]
      have HS : Hid (w.heap.size ≤ w1.heap.size) := by unfold Hid; have := HN.out; omega
      by_cases ho : m % 2 = 1
      · have b1 : (m % 2 == 1) = true := by simpa using ho
        have HO : Hid _ := ho
        obtain ⟨a0, a1, a2, a3⟩ := HA.out
        obtain ⟨p0, p1, p2, p3⟩ := HP.out
        go_wp2_with fail
        clear a0 a1 a2 a3 p0 p1 p2 p3
        refine (refAdd_any acc p _).mono ?_
        rintro e w2 ⟨rfl, hb2⟩
        have HA2 : Hid (Nb acc w1.heap.size w2) := HA.out.below hb2
        have HP2 : Hid (Nb p (w1.heap.size + 1) w2) := HP.out.below hb2
        have HR2 : Hid (Nb 0 w.heap.size w2) := HR.out.below hb2
        have HB2 : Hid (Below w.heap.size w w2) := HB.out.trans (hb2.mono HB.out.size)
        clear hb2 HA HP HR HB
        unfold wv
        obtain ⟨a0, a1, a2, a3⟩ := HA2.out
        obtain ⟨p0, p1, p2, p3⟩ := HP2.out
        go_wp2_with fail
        clear a0 a1 a2 a3 p0 p1 p2 p3
        refine (refAdd_any p p _).mono ?_
        rintro e w3 ⟨rfl, hb3⟩
        have HA3 : Hid (Nb (acc + p) w1.heap.size w3) := Nb.below (Nb.set HA2.out) hb3
        have HP3 : Hid (Nb p (w1.heap.size + 1) w3) := Nb.below ((HP2.out.far (by omega)).far (by omega)) hb3
        have HR3 : Hid (Nb 0 w.heap.size w3) := Nb.below ((HR2.out.far (by have := HN.out; omega)).far (by have := HN.out; omega)) hb3
        have hbq := (HB2.out.setCell (p := ⟨w1.heap.size, 0, none⟩) HS.out (.int .i64 (hi (acc + p)))).setCell (p := ⟨w1.heap.size, 1, none⟩) HS.out (.int .u64 (lo (acc + p)))
        have HB3 : Hid (Below w.heap.size w w3) := hbq.trans (hb3.mono hbq.size)
        clear hb3 hbq HA2 HP2 HR2 HB2
        unfold wv
        obtain ⟨p0, p1, p2, p3⟩ := HP3.out
        go_wp2_with fail
        go_roundw
        case rel =>
          have hs := HS.out
          refine ⟨m / 2, acc + p, p + p, rfl, by omega, by omega, ?_, (HA3.out.far (by omega)).far (by omega), Nb.set HP3.out, (HR3.out.far (by omega)).far (by omega), (HB3.out.setCell (p := ⟨w1.heap.size + 1, 0, none⟩) (by show w.heap.size ≤ w1.heap.size + 1; omega) _).setCell (p := ⟨w1.heap.size + 1, 1, none⟩) (by show w.heap.size ≤ w1.heap.size + 1; omega) _⟩
          have e1 := HE.out
          have e2 := HM.out
          rw [HO.out, Int.mul_one] at e2
          omega
        case measure => simp [intOf]; omega
      · have b1 : (m % 2 == 1) = false := by simpa using ho
        have HO : Hid (m % 2 = 0) := by unfold Hid; omega
        obtain ⟨p0, p1, p2, p3⟩ := HP.out
        go_wp2_with fail
        clear p0 p1 p2 p3
        refine (refAdd_any p p _).mono ?_
        rintro e w3 ⟨rfl, hb3⟩
        have HA3 : Hid (Nb acc w1.heap.size w3) := HA.out.below hb3
        have HP3 : Hid (Nb p (w1.heap.size + 1) w3) := HP.out.below hb3
        have HR3 : Hid (Nb 0 w.heap.size w3) := HR.out.below hb3
        have HB3 : Hid (Below w.heap.size w w3) := HB.out.trans (hb3.mono HB.out.size)
        clear hb3 HA HP HR HB
        unfold wv
        obtain ⟨p0, p1, p2, p3⟩ := HP3.out
        go_wp2_with fail
        go_roundw
        case rel =>
          have hs := HS.out
          refine ⟨m / 2, acc, p + p, rfl, by omega, by omega, ?_, (HA3.out.far (by omega)).far (by omega), Nb.set HP3.out, (HR3.out.far (by omega)).far (by omega), (HB3.out.setCell (p := ⟨w1.heap.size + 1, 0, none⟩) (by show w.heap.size ≤ w1.heap.size + 1; omega) _).setCell (p := ⟨w1.heap.size + 1, 1, none⟩) (by show w.heap.size ≤ w1.heap.size + 1; omega) _⟩
          have e1 := HE.out
          have e2 := HM.out
          rw [HO.out, Int.mul_zero] at e2
          omega
        case measure => simp [intOf]; omega
set_option maxRecDepth 100000 in
set_option maxHeartbeats 1000000 in
theorem refMinus_any (x : Int) (w : World) :
    Calls Try.prog 13 #[wv x] w fun e w' => e = .returned (wv (-x)) ∧ Below w.heap.size w w' := by
  have HZ : Hid (hi 0 = 0 ∧ lo 0 = 0) := ⟨by unfold hi; omega, by unfold lo; omega⟩
  unfold wv
  go_enter Try.func13, Try.ntmps13
  go_wp2_with fail
  refine (digits_dv x _).mono ?_
  rintro e w1 ⟨rfl, hb1⟩
  have HB1 : Hid (Below w.heap.size w w1) := (((Below.refl _ _).alloc (by simp) _).alloc (by simp) _).trans (hb1.mono (by simp; omega))
  have hr : Nb 0 (w.heap.size + 1) w1 := Nb.below ⟨by simp, by simp [go_sem, HZ.out.1], by simp [go_sem, HZ.out.2], fun o => by simp [go_sem]⟩ hb1
  have HR1 : Hid (Nb 0 (w.heap.size + 1) w1) := hr
  have HN : Hid (w.heap.size + 1 < w1.heap.size) := hr.1
  clear hb1 hr
  have ev : dv x = .agg #[.int .i64 (dF x 0), .int .i64 (dF x 1), .int .i64 (dF x 2), .int .i64 (dF x 3), .int .i64 (dF x 4), .int .i64 (dF x 5), .int .i64 (dF x 6), .int .i64 (dF x 7), .int .i64 (dF x 8), .int .i64 (dF x 9), .int .i64 (dF x 10), .int .i64 (dF x 11), .int .i64 (dF x 12), .int .i64 (dF x 13), .int .i64 (dF x 14), .int .i64 (dF x 15)] := rfl
  rw [ev]
  clear ev
  have HD : Hid (∀ t, DArr (w1.alloc (.cells #[.int .i64 (dF x 0), .int .i64 (dF x 1), .int .i64 (dF x 2), .int .i64 (dF x 3), .int .i64 (dF x 4), .int .i64 (dF x 5), .int .i64 (dF x 6), .int .i64 (dF x 7), .int .i64 (dF x 8), .int .i64 (dF x 9), .int .i64 (dF x 10), .int .i64 (dF x 11), .int .i64 (dF x 12), .int .i64 (dF x 13), .int .i64 (dF x 14), .int .i64 (dF x 15)] t)) w1.heap.size (dF x)) := fun t => DArr.new w1 (dF x) t
  go_wp2_with fail
  go_loopw [4] (fun i wr => ∃ k : Nat, k ≤ 16 ∧ i = .int .i64 (k : Int) ∧ DArr wr w1.heap.size (fun j => if j < k then dF (-x - 1) j else dF x j) ∧ Nb 0 (w.heap.size + 1) wr ∧ Below w.heap.size w wr) (fun i _ => 16 - (intOf i).toNat)
  case atStart => exact ⟨0, by omega, rfl, (HD.out _).congr (fun j hj => by simp), HR1.out.below ((Below.refl _ _).alloc (Nat.le_refl _) _), HB1.out.alloc HB1.out.size _⟩
  case round =>
    obtain ⟨k, hk, rfl, hd, hr, hbr⟩ := hrel
    have HR : Hid (Nb 0 (w.heap.size + 1) wr) := hr
    have HB : Hid (Below w.heap.size w wr) := hbr
    clear hr hbr
    by_cases hlt : k < 16
    · have c1 : wr.cell? ⟨w1.heap.size, k, none⟩ = some (.int .i64 (dF x k)) := (hd.2.1 k hlt).trans (by show some (Value.int .i64 (if k < k then _ else _)) = _; rw [if_neg (Nat.lt_irrefl k)])
      have f1 := hd.2.2 k
      have k0 : (0 : Int) ≤ (k : Int) := by omega
      have k16 : (k : Int) < 16 := by omega
      have hd0 := dF_bds x k
      have t1 : IntKind.i64.wrap (255 - dF x k) = dF (-x - 1) k := by rw [IntKind.wrap_i64, ← dF_minus x k hlt]; omega
      have HD2 : Hid (DArr (wr.setCell ⟨w1.heap.size, k, none⟩ (.int .i64 (dF (-x - 1) k))) w1.heap.size (fun j => if j < k + 1 then dF (-x - 1) j else dF x j)) := (hd.set k hlt _).congr (fun j hj => by
        by_cases e : j = k
        · subst e; rw [if_pos rfl, if_pos (by omega)]
        · rw [if_neg e]
          by_cases e2 : j < k
          · rw [if_pos e2, if_pos (by omega)]
          · rw [if_neg e2, if_neg (by omega)])
      clear hd hd0
      go_wp2_with fail
      go_roundw
      case rel =>
        have hn := HN.out
        exact ⟨k + 1, by omega, by go_num, HD2.out, HR.out.far (by omega), HB.out.setCell (p := ⟨w1.heap.size, _, none⟩) (by show w.heap.size ≤ w1.heap.size; omega) _⟩
      case measure => simp [intOf]; omega
    · have hke : k = 16 := by omega
      subst hke
      have hd := hd.congr (g := dF (-x - 1)) (fun j hj => by rw [if_pos hj])
      have c0 : wr.cell? ⟨w1.heap.size, 0, none⟩ = some (.int .i64 (dF (-x - 1) 0)) := hd.2.1 0 (by decide)
      have c1 : wr.cell? ⟨w1.heap.size, 1, none⟩ = some (.int .i64 (dF (-x - 1) 1)) := hd.2.1 1 (by decide)
      have c2 : wr.cell? ⟨w1.heap.size, 2, none⟩ = some (.int .i64 (dF (-x - 1) 2)) := hd.2.1 2 (by decide)
      have c3 : wr.cell? ⟨w1.heap.size, 3, none⟩ = some (.int .i64 (dF (-x - 1) 3)) := hd.2.1 3 (by decide)
      have c4 : wr.cell? ⟨w1.heap.size, 4, none⟩ = some (.int .i64 (dF (-x - 1) 4)) := hd.2.1 4 (by decide)
      have c5 : wr.cell? ⟨w1.heap.size, 5, none⟩ = some (.int .i64 (dF (-x - 1) 5)) := hd.2.1 5 (by decide)
      have c6 : wr.cell? ⟨w1.heap.size, 6, none⟩ = some (.int .i64 (dF (-x - 1) 6)) := hd.2.1 6 (by decide)
      have c7 : wr.cell? ⟨w1.heap.size, 7, none⟩ = some (.int .i64 (dF (-x - 1) 7)) := hd.2.1 7 (by decide)
      have c8 : wr.cell? ⟨w1.heap.size, 8, none⟩ = some (.int .i64 (dF (-x - 1) 8)) := hd.2.1 8 (by decide)
      have c9 : wr.cell? ⟨w1.heap.size, 9, none⟩ = some (.int .i64 (dF (-x - 1) 9)) := hd.2.1 9 (by decide)
      have c10 : wr.cell? ⟨w1.heap.size, 10, none⟩ = some (.int .i64 (dF (-x - 1) 10)) := hd.2.1 10 (by decide)
      have c11 : wr.cell? ⟨w1.heap.size, 11, none⟩ = some (.int .i64 (dF (-x - 1) 11)) := hd.2.1 11 (by decide)
      have c12 : wr.cell? ⟨w1.heap.size, 12, none⟩ = some (.int .i64 (dF (-x - 1) 12)) := hd.2.1 12 (by decide)
      have c13 : wr.cell? ⟨w1.heap.size, 13, none⟩ = some (.int .i64 (dF (-x - 1) 13)) := hd.2.1 13 (by decide)
      have c14 : wr.cell? ⟨w1.heap.size, 14, none⟩ = some (.int .i64 (dF (-x - 1) 14)) := hd.2.1 14 (by decide)
      have c15 : wr.cell? ⟨w1.heap.size, 15, none⟩ = some (.int .i64 (dF (-x - 1) 15)) := hd.2.1 15 (by decide)
      clear hd
      go_wp2_with fail
      refine (from_N (-x - 1) _).mono ?_
      rintro e w4 ⟨rfl, hb4⟩
      have HR4 : Hid (Nb 0 (w.heap.size + 1) w4) := HR.out.below hb4
      have HB4 : Hid (Below w.heap.size w w4) := HB.out.trans (hb4.mono HB.out.size)
      clear hb4 HR HB
      go_wp2_with fail
      refine (refOf_any 1 (by decide) (by decide) _).mono ?_
      rintro e w5 ⟨rfl, hb5⟩
      have HR5 : Hid (Nb 0 (w.heap.size + 1) w5) := HR4.out.below hb5
      have HB5 : Hid (Below w.heap.size w w5) := HB4.out.trans (hb5.mono HB4.out.size)
      clear hb5 HR4 HB4
      go_wp2_with fail
      refine (refAdd_any (-x - 1) 1 _).mono ?_
      rintro e w6 ⟨rfl, hb6⟩
      have HR6 : Hid (Nb 0 (w.heap.size + 1) w6) := HR5.out.below hb6
      have HB6 : Hid (Below w.heap.size w w6) := HB5.out.trans (hb6.mono HB5.out.size)
      clear hb6 HR5 HB5
      have e1 : -x - 1 + 1 = -x := by omega
      rw [e1]
      clear e1
      unfold wv
      obtain ⟨r0, r1, r2, r3⟩ := HR6.out
      go_wp2_with fail
      obtain ⟨_, s1, s2, _⟩ := Nb.set (y := -x) HR6.out
      refine bodyPost_ret (v := .agg #[.int .i64 (hi (-x)), .int .u64 (lo (-x))]) (by simp [results, Try.results13, go_sem, s1, s2]) rfl ⟨rfl, ?_⟩
      exact (HB6.out.setCell (p := ⟨w.heap.size + 1, 0, none⟩) (by show w.heap.size ≤ w.heap.size + 1; omega) _).setCell (p := ⟨w.heap.size + 1, 1, none⟩) (by show w.heap.size ≤ w.heap.size + 1; omega) _
end Go.Proofs.Ytldbglkapopbiaa
