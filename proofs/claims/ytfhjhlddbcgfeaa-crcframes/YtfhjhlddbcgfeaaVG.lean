/- The walk of CrcFrames. -/
import Derived.Test.YtfhjhlddbcgfeaaR7
import Derived.Test.YtfhjhlddbcgfeaaV8
namespace Go.Proofs.Ytfhjhlddbcgfeaa
open Go.RowKit

def fX (l : List UInt8) : List UInt8 := if l.length ≤ 65535 then frm l else []
def fE (l : List UInt8) : Int := if l.length ≤ 65535 then 0 else 2
theorem frame_all (v : Value) (l : List UInt8) (w : World) (hr : Reads w v l) :
    Calls Try.prog 14 #[v] w fun e w' => ∃ v', e = .returned (.tuple #[v', .int .i64 (fE l)]) ∧ Own w' w.heap.size v' (fX l) ∧ Below w.heap.size w w' := by
  by_cases h : l.length ≤ 65535
  · rw [fX, fE, if_pos h, if_pos h]; exact frame_any v l h w hr
  · rw [fX, fE, if_neg h, if_neg h]
    exact (frame_long v l (by omega) w hr).mono fun e w' ⟨he, hw⟩ => ⟨_, he, Own.nil _ _, by rw [hw]; exact Below.refl _ _⟩
theorem refFrame_all (v : Value) (l : List UInt8) (w : World) (hr : Reads w v l) :
    Calls Try.prog 15 #[v] w fun e w' => ∃ v', e = .returned (.tuple #[v', .int .i64 (fE l)]) ∧ Own w' w.heap.size v' (fX l) ∧ Below w.heap.size w w' := by
  by_cases h : l.length ≤ 65535
  · rw [fX, fE, if_pos h, if_pos h]; exact refFrame_any v l h w hr
  · rw [fX, fE, if_neg h, if_neg h]
    exact (refFrame_long v l (by omega) w hr).mono fun e w' ⟨he, hw⟩ => ⟨_, he, Own.nil _ _, by rw [hw]; exact Below.refl _ _⟩
theorem row_above {w : World} {base g k n size : Nat} {e : TypeId} {v u : Value} {xs : List Value} (h : w.ownsRow base e size v n xs) (hg : g < base) : (w.setCell ⟨g, k, none⟩ u).ownsRow base e size v n xs := by
  obtain ⟨h1, h2⟩ := h
  refine ⟨h1, ?_⟩
  rcases h2 with h2 | ⟨g', cap, cur, hv, hb, hw, r⟩
  · exact .inl h2
  · refine .inr ⟨g', cap, cur, hv, hb, ?_, r⟩
    rw [← hw]
    show (w.heap.modify g _)[g']? = _
    rw [Array.getElem?_modify]
    rw [if_neg (by omega)]
/-- What stands while own is turned. -/
structure Std (B3 B4 : Nat) (vp vl : Value) (P : List UInt8) (xs : List Fr) (w : World) : Prop where
  p : Own w B3 vp P
  r : w.ownsRow B4 22 1 vl xs.length (xs.map Fr.v)
  o : ∀ x ∈ xs, Own w B4 x.v x.D
theorem Std.set {B3 B4 g k : Nat} {vp vl u : Value} {P : List UInt8} {xs : List Fr} {w : World} (h : Std B3 B4 vp vl P xs w) (h3 : g < B3) (h4 : g < B4) : Std B3 B4 vp vl P xs (w.setCell ⟨g, k, none⟩ u) :=
  ⟨row_above h.p h3, row_above h.r h4, fun x hx => row_above (h.o x hx) h4⟩
set_option maxRecDepth 100000 in
set_option maxHeartbeats 1000000 in
theorem frames_walk (va : Value) (la : List UInt8) (vb : Value) (lb : List UInt8) (w : World) (ha : Reads w va la) (hb : Reads w vb lb) :
    Calls Try.prog 4 #[va, vb] w fun e w' => e = .returned (.bool true) ∧ Below w.heap.size w w' := by
  obtain ⟨aa, ca, rfl, hma⟩ := ha.form
  obtain ⟨ab, cb, rfl, hmb⟩ := hb.form
  unfold maxLen at hma hmb
  by_cases g0 : (500 : Int) < (la.length : Int) <;> by_cases g1 : (la.length : Int) ≤ 65535 <;> by_cases g2 : (70000 : Int) < (la.length : Int) <;> by_cases g3 : (4000 : Int) < (lb.length : Int)
  all_goals first
    | (exfalso; omega)
    | (clear ha hb
       go_enter Try.func4, Try.ntmps4
       go_wp2_with fail
       refine (alive_any _).mono ?_
       rintro e w1 ⟨rfl, hb1⟩
       go_wp2_with fail
       go_ret
       exact ⟨rfl, hb1⟩)
    | skip
  all_goals
    go_enter Try.func4, Try.ntmps4
    go_wp2_with fail
    refine (frame_all _ la _ ha).mono ?_
    rintro e w1 ⟨vx, rfl, HX1, hb1⟩
    have HB1 : Hid (Below w.heap.size w w1) := hb1
    have ha1 := ha.below hb1
    clear hb1
    obtain ⟨X, HXn⟩ := hid_ex (fX la)
    obtain ⟨E, HEn⟩ := hid_ex (fE la)
    rw [← HXn.out] at HX1
    rw [← HEn.out]
    have HX1' : Hid (Reads w1 vx X) := HX1.reads
    clear HX1
    go_wp2_with fail
    refine (refFrame_all _ la _ ha1).mono ?_
    rw [← HXn.out, ← HEn.out]
    rintro e w2 ⟨vy, rfl, HY2, hb2⟩
    have HB2 : Hid (Below w.heap.size w w2) := HB1.out.trans (hb2.mono HB1.out.size)
    have HX2 : Hid (Reads w2 vx X) := HX1'.out.below hb2
    have HY2' : Hid (Reads w2 vy X) := HY2.reads
    have hb2' := hb.below HB2.out
    clear hb2 HB1 HX1' HY2 ha1 HXn HEn
    go_wp2_with fail
    refine (copy_any _ lb (by omega) _ hb2').mono ?_
    rintro e w3 ⟨vo, rfl, HO3, hb3⟩
    have HT3 : Hid (Below w2.heap.size w2 w3) := hb3
    have HO3' : Hid (Own w3 w2.heap.size vo lb) := HO3
    obtain ⟨ao, co, rfl, _⟩ := HO3.form
    clear hb3 hb2' HO3
    go_wp2_with fail
    refine (next_any _ lb _ HO3'.out.reads).mono ?_
    obtain ⟨q, hq⟩ := hid_ex (nxF lb)
    rw [← hq.out]
    obtain ⟨P, N, G⟩ := q
    rintro e w4 ⟨vp, rfl, HP4, hb4⟩
    dsimp only at HP4 ⊢
    have HP4' : Hid (Own w4 w3.heap.size vp P) := HP4
    have HT4 : Hid (Below w2.heap.size w2 w4) := HT3.out.trans (hb4.mono HT3.out.size)
    have HO4 : Hid (Own w4 w2.heap.size (.slice ao lb.length co) lb) := HO3'.out.below hb4
    have HZ4 : Hid (w3.heap.size ≤ w4.heap.size) := hb4.size
    clear hb4 HP4
    obtain ⟨S, HS⟩ := hid_ex (ksum (alF (lb.length + 1) lb))
    go_wp2_with fail
    refine (all_any _ lb (by omega) _ HO4.out.reads).mono ?_
    rw [← HS.out]
    rintro e w5 ⟨vl, xs, rfl, hxs, hrow, hO5, hb5⟩
    have HSt : Hid (Std w3.heap.size w4.heap.size vp vl P xs w5) := ⟨HP4'.out.below hb5, hrow, hO5⟩
    have HT5 : Hid (Below w2.heap.size w2 w5) := HT4.out.trans (hb5.mono HT4.out.size)
    have HO5 : Hid (Own w5 w2.heap.size (.slice ao lb.length co) lb) := HO4.out.below hb5
    have HXS : Hid (xs.map Fr.p = alF (lb.length + 1) lb) := hxs
    have HG : Hid (∀ g, ao = some ⟨g, 0, none⟩ → 0 < lb.length → g < w3.heap.size) := by
      intro g hg h0
      obtain ⟨g', c', hv, _, hlt, _⟩ := HO3'.out.some h0
      simp only [Value.slice.injEq] at hv
      have := hv.1.symm.trans hg
      simp at this
      omega
    clear hb5 hrow hO5 hxs HO4 HP4' HT4 HT3 HO3'
    go_wp2_with fail
    go_loopw [15] (fun i wr => ∃ (k : Nat) (Z : List UInt8), k ≤ lb.length ∧ i = .int .i64 (k : Int) ∧ Hid (Z.length = lb.length) ∧ Hid (Own wr w2.heap.size (.slice ao lb.length co) Z) ∧ Hid (Std w3.heap.size w4.heap.size vp vl P xs wr) ∧ Hid (Below w2.heap.size w2 wr)) (fun i _ => lb.length - (intOf i).toNat)
    case atStart => exact ⟨0, lb, by omega, rfl, rfl, HO5, HSt, HT5⟩
    case round =>
      obtain ⟨k, Z, hk, rfl, HZ, HOk, HSk, HTk⟩ := hrel
      by_cases hlt : k < lb.length
      · obtain ⟨gb, cp, hv, hg1, hg2, _, _⟩ := HOk.out.some (by rw [HZ.out]; omega)
        simp only [Value.slice.injEq] at hv
        obtain ⟨rfl, hv2, hv3⟩ := hv
        clear hv2 hv3
        have hg3 : gb < w3.heap.size := HG.out gb rfl (by omega)
        obtain ⟨hc1, hf1⟩ := HOk.out.at k (by rw [HZ.out]; omega)
        obtain ⟨x, y, i1, y1, HST, HZ2, HSS⟩ : ∃ x y : UInt8, wr.cell? ⟨gb, k, none⟩ = some (.int .u8 (x.toNat : Int)) ∧ bits .xor .u8 (x.toNat : Int) 255 = (y.toNat : Int) ∧ Hid (Own (wr.setCell ⟨gb, k, none⟩ (.int .u8 (y.toNat : Int))) w2.heap.size (.slice (some ⟨gb, 0, none⟩) lb.length co) (Z.set k y) ∧ Below w2.heap.size wr (wr.setCell ⟨gb, k, none⟩ (.int .u8 (y.toNat : Int)))) ∧ Hid ((Z.set k y).length = lb.length) ∧ Hid (Std w3.heap.size w4.heap.size vp vl P xs (wr.setCell ⟨gb, k, none⟩ (.int .u8 (y.toNat : Int)))) := by
          have hkz : k < Z.length := by rw [HZ.out]; omega
          have hx := (Z[k]).toNat_lt
          have hxl : (Z[k]).toNat ^^^ 255 < 2 ^ 8 := Nat.xor_lt_two_pow hx (by decide)
          have ey : (UInt8.ofNat ((Z[k]).toNat ^^^ 255)).toNat = (Z[k]).toNat ^^^ 255 := by rw [UInt8.toNat_ofNat', Nat.mod_eq_of_lt hxl]
          refine ⟨Z[k], UInt8.ofNat ((Z[k]).toNat ^^^ 255), hc1, ?_, HOk.out.stored k _, ?_, HSk.out.set hg3 (Nat.lt_of_lt_of_le hg3 HZ4.out)⟩
          · rw [ey]; exact u8_xor_nat _ 255 hx (by decide)
          · show (Z.set k _).length = _
            rw [List.length_set]; exact HZ.out
        clear hc1
        go_wp2_with fail
        go_roundw
        case rel => exact ⟨k + 1, _, by omega, by go_num, HZ2, HST.out.1, HSS, HTk.out.trans HST.out.2⟩
        case measure => simp [intOf]; omega
      · have HBk : Hid (Below w.heap.size w wr) := HB2.out.trans (HTk.out.mono HB2.out.size)
        have HXk : Hid (Reads wr vx X) := HX2.out.below HTk.out
        have HYk : Hid (Reads wr vy X) := HY2'.out.below HTk.out
        have hbk := hb.below HBk.out
        have HPk : Hid (Reads wr vp P) := HSk.out.p.reads
        have HLk : Hid (LReads wr vl (xs.map Fr.D)) := LReads.of_row HSk.out.r HSk.out.o
        clear HOk HSk HTk HZ HX2 HY2' HO5 HSt HT5 HG HZ4
        go_wp2_with fail
        refine (refNext_any _ lb (by omega) _ hbk).mono ?_
        rw [← hq.out]
        rintro e w6 ⟨vq, rfl, HQ6, hb6⟩
        dsimp only at HQ6 ⊢
        have HB6 : Hid (Below w.heap.size w w6) := HBk.out.trans (hb6.mono HBk.out.size)
        have HX6 : Hid (Reads w6 vx X) := HXk.out.below hb6
        have HY6 : Hid (Reads w6 vy X) := HYk.out.below hb6
        have HP6 : Hid (Reads w6 vp P) := HPk.out.below hb6
        have HQ6' : Hid (Reads w6 vq P) := HQ6.reads
        have HL6 : Hid (LReads w6 vl (xs.map Fr.D)) := HLk.out.below hb6
        have hb6' := hb.below HB6.out
        clear hb6 HQ6 HBk HXk HYk HPk HLk hbk
        go_wp2_with fail
        refine (refAll_any _ lb (by omega) _ hb6').mono ?_
        rw [← HS.out]
        rintro e w7 ⟨vm, ys, rfl, hys, hrow, hO7, hb7⟩
        have HB7 : Hid (Below w.heap.size w w7) := HB6.out.trans (hb7.mono HB6.out.size)
        have HX7 : Hid (Reads w7 vx X) := HX6.out.below hb7
        have HY7 : Hid (Reads w7 vy X) := HY6.out.below hb7
        have HP7 : Hid (Reads w7 vp P) := HP6.out.below hb7
        have HQ7 : Hid (Reads w7 vq P) := HQ6'.out.below hb7
        have HL7 : Hid (LReads w7 vl (xs.map Fr.D)) := HL6.out.below hb7
        have HM7 : Hid (LReads w7 vm (xs.map Fr.D)) := by
          have h := LReads.of_row hrow hO7
          have e : ys.map Fr.D = xs.map Fr.D := by
            have h2 := congrArg (List.map Prod.fst) (hys.trans HXS.out.symm)
            rw [List.map_map, List.map_map] at h2
            exact h2
          rw [e] at h; exact h
        clear hb7 hrow hO7 hys HB6 HX6 HY6 HP6 HQ6' HL6 hb6' hq HS HXS
        go_wp2_with fail
        refine (alive_any _).mono ?_
        rintro e w8 ⟨rfl, hb8⟩
        have HB8 : Hid (Below w.heap.size w w8) := HB7.out.trans (hb8.mono HB7.out.size)
        have t1 := reads_text (HX7.out.below hb8)
        have t2 := reads_text (HY7.out.below hb8)
        have t3 := reads_text (HP7.out.below hb8)
        have t4 := reads_text (HQ7.out.below hb8)
        have HL8 : Hid (LReads w8 vl (xs.map Fr.D)) := HL7.out.below hb8
        have HM8 : Hid (LReads w8 vm (xs.map Fr.D)) := HM7.out.below hb8
        clear hb8 HB7 HX7 HY7 HP7 HQ7 HL7 HM7
        go_wp2_with fail
        refine (same_any _ _ _ _ _ HL8.out HM8.out).mono ?_
        rw [show decide (xs.map Fr.D = xs.map Fr.D) = true by simp]
        rintro e w9 ⟨rfl, hb9⟩
        have HB9 : Hid (Below w.heap.size w w9) := HB8.out.trans (hb9.mono HB8.out.size)
        clear hb9 HB8 t1 t2 t3 t4 HL8 HM8
        go_wp2_with fail
        go_ret
        exact ⟨rfl, HB9.out⟩
end Go.Proofs.Ytfhjhlddbcgfeaa
