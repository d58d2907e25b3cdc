/- The walk of WideExact. -/
import Derived.Test.YtaleggnhdodcdabE1
namespace Go.Proofs.Ytaleggnhdodcdab
open Go.RowKit

def upL : List Int → Int
  | [] => 0
  | a :: l => (if 0 ≤ a then a else 0) + upL l
def dnL : List Int → Int
  | [] => 0
  | a :: l => (if 0 ≤ a then 0 else -a) + dnL l
theorem upL_snoc (l : List Int) (a : Int) : upL (l ++ [a]) = upL l + (if 0 ≤ a then a else 0) := by
  induction l with
  | nil => simp [upL]
  | cons b l ih => simp [upL, ih]; omega
theorem dnL_snoc (l : List Int) (a : Int) : dnL (l ++ [a]) = dnL l + (if 0 ≤ a then 0 else -a) := by
  induction l with
  | nil => simp [dnL]
  | cons b l ih => simp [dnL, ih]; omega
theorem upL_take (l : List Int) (k : Nat) (h : k < l.length) : upL (l.take (k + 1)) = upL (l.take k) + (if 0 ≤ l.getD k 0 then l.getD k 0 else 0) := by rw [take_snocI l k h, upL_snoc]
theorem dnL_take (l : List Int) (k : Nat) (h : k < l.length) : dnL (l.take (k + 1)) = dnL (l.take k) + (if 0 ≤ l.getD k 0 then 0 else -l.getD k 0) := by rw [take_snocI l k h, dnL_snoc]
theorem ud_bd (l : List Int) (hl : ∀ x ∈ l, -9223372036854775808 ≤ x ∧ x ≤ 9223372036854775807) : 0 ≤ upL l ∧ upL l ≤ 9223372036854775808 * l.length ∧ 0 ≤ dnL l ∧ dnL l ≤ 9223372036854775808 * l.length := by
  induction l with
  | nil => simp [upL, dnL]
  | cons a l ih =>
    have h1 := ih (fun x hx => hl x (List.mem_cons_of_mem _ hx))
    have h2 := hl a (List.mem_cons_self ..)
    simp only [upL, dnL, List.length_cons]
    split <;> omega

set_option maxRecDepth 100000 in
set_option maxHeartbeats 4000000 in
theorem exact_some (b off len cap : Nat) (zs : List Int) (hlz : len ≤ zs.length) (hl0 : len ≤ 2000) (hz : ∀ x ∈ zs, -9223372036854775808 ≤ x ∧ x ≤ 9223372036854775807) (w : World) (hbw : b < w.heap.size)
    (hc : ∀ i, i < len → w.cell? ⟨b, off + i, none⟩ = some (.int .i64 (zs.getD i 0))) :
    Calls Try.prog 5 #[.slice (some ⟨b, off, none⟩) len cap] w fun e w' => e = .returned (.bool true) ∧ Below w.heap.size w w' := by
  have hd2 : decide (2000 < (len : Int)) = false := by simp; omega
  go_enter Try.func5, Try.ntmps5
  go_wp2_with fail
  refine (of_exact 0 (by decide) (by decide) _).mono ?_
  rintro e w' ⟨rfl, cc1, rfl⟩
  go_wp2_with fail
  refine (of_exact 0 (by decide) (by decide) _).mono ?_
  rintro e w' ⟨rfl, cc2, rfl⟩
  go_wp2_with fail
  refine (of_exact 0 (by decide) (by decide) _).mono ?_
  rintro e w' ⟨rfl, cc3, rfl⟩
  clear hd2
  go_wp2_with fail
  go_loopw [6] (fun i wr => ∃ k : Nat, k ≤ len ∧ i = .int .i64 k ∧ Sums (upL (zs.take k)) (dnL (zs.take k)) (upL (zs.take k) - dnL (zs.take k)) w wr) (fun i _ => len - (intOf i).toNat)
  case atStart =>
    refine ⟨0, by omega, rfl, ?_⟩
    have e1 : upL (zs.take 0) = 0 := rfl
    have e2 : dnL (zs.take 0) = 0 := rfl
    rw [e1, e2]
    refine ⟨?_, ?_, ?_, ?_, ?_, ?_, ?_, ?_, ?_, ?_, ?_, ?_, ?_, ?_⟩
    any_goals (simp [go_sem, World.cell?_alloc_past]; done)
    exact ((((((Below.refl _ _).alloc (by simp) _).alloc (by simp) _).alloc (by simp; omega) _).alloc (by simp; omega) _).alloc (by simp; omega) _).alloc (by simp; omega) _
  case round =>
    obtain ⟨k, hk, rfl, hS⟩ := hrel
    by_cases hlt : k < len
    · have hbr0 := hS.2.2.2.2.2.2.2.2.2.2.2.2.2
      have hcell : wr.cell? ⟨b, off + k, none⟩ = some (.int .i64 (zs.getD k 0)) := (hbr0.cell (p := ⟨b, off + k, none⟩) hbw).trans (hc k hlt)
      have hzb := hz _ (getD_mem zs k (by omega))
      have HU : Hid _ := upL_take zs k (by omega)
      have HD : Hid _ := dnL_take zs k (by omega)
      clear hbr0 hc
      generalize zs.getD k 0 = z at *
      generalize upL (zs.take k) = u at *
      generalize dnL (zs.take k) = d at *
      have hki : ((k : Int) < (len : Int)) := by omega
      obtain ⟨z1, z2⟩ := hzb
      go_upto_region 7 with fail
      go_cut [24] (fun _ wx => Sums u d (u - d + z) w wx ∧ wx.cell? ⟨b, off + k, none⟩ = some (.int .i64 z))
      case first =>
        obtain ⟨hu0, hu1, gu0, gu1, hd0, hd1, gd0, gd1, ha0, ha1, ga0, ga1, hsz, hbr⟩ := hS
        have HS : Hid (Sums u d (u - d) w wr) := ⟨hu0, hu1, gu0, gu1, hd0, hd1, gd0, gd1, ha0, ha1, ga0, ga1, hsz, hbr⟩
        clear hu0 hu1 gu0 gu1 hd0 hd1 gd0 gd1 hbr
        have hbw2 : b < wr.heap.size := by omega
        go_region_with (first | (go_at_call 15; refine (of_any z z1 z2 _).mono ?_; rintro e w2 ⟨rfl, hb2⟩; have HS2 : Hid (Sums u d (u - d) w w2) := Sums.below (Sums.drew HS.out) hb2; have q0 := HS2.out.2.2.2.2.2.2.2.2.1; have q1 := HS2.out.2.2.2.2.2.2.2.2.2.1; have HC2 : Hid (w2.cell? ⟨b, off + k, none⟩ = some (.int .i64 z)) := bcE hb2 hbw2 hcell; clear hb2) | (go_at_call 14; refine (add_any (u - d) z _).mono ?_; rintro e w3 ⟨rfl, hb3⟩; have HS3 : Hid (Sums u d (u - d) w w3) := Sums.below HS2.out hb3; have q3 := HS3.out.2.2.2.2.2.2.2.2.1; have q4 := HS3.out.2.2.2.2.2.2.2.2.2.1; have q5 := HS3.out.2.2.2.2.2.2.2.2.2.2.1; have q6 := HS3.out.2.2.2.2.2.2.2.2.2.2.2.1; have HC3 : Hid (w3.cell? ⟨b, off + k, none⟩ = some (.int .i64 z)) := bcE hb3 (Nat.lt_of_lt_of_le hbw HS2.out.2.2.2.2.2.2.2.2.2.2.2.2.2.size) HC2.out; clear hb3))
        all_goals
          go_wp2_with fail
          go_meet
          case rel =>
            refine ⟨(Sums.set u d (u - d) (u - d + z) HS3.out).1, ?_⟩
            rw [World.cell?_setCell_other (h := addr_bne _ b 1 (off + k) (by omega)), World.cell?_setCell_other (h := addr_bne _ b 0 (off + k) (by omega))]
            exact HC3.out
      case rest =>
        obtain ⟨hSc, hcc⟩ := hcut
        clear hS hcell
        obtain ⟨hu0, hu1, gu0, gu1, hd0, hd1, gd0, gd1, ha0, ha1, ga0, ga1, hsz, hbr⟩ := hSc
        have HS : Hid (Sums u d (u - d + z) w wc) := ⟨hu0, hu1, gu0, gu1, hd0, hd1, gd0, gd1, ha0, ha1, ga0, ga1, hsz, hbr⟩
        have hbw2 : b < wc.heap.size := by omega
        by_cases hzp : 0 ≤ z
        · have EU : Hid (upL (zs.take (k + 1)) = u + z) := by have := HU.out; unfold Hid; rw [this, if_pos hzp]
          have ED : Hid (dnL (zs.take (k + 1)) = d) := by have := HD.out; unfold Hid; rw [this, if_pos hzp]; omega
          have hzd : decide (0 ≤ z) = true := by simpa using hzp
          clear hd0 hd1 gd0 gd1 ha0 ha1 ga0 ga1 hbr
          clear HU HD hzp
          go_wp2_with fail
          go_region_with (first | (go_at_call 15; refine (of_any z z1 z2 _).mono ?_; rintro e w2 ⟨rfl, hb2⟩; have HS2 : Hid (Sums u d (u - d + z) w w2) := Sums.below (Sums.drew HS.out) hb2; have q0 := HS2.out.1; have q1 := HS2.out.2.1; clear hb2) | (go_at_call 14; refine (add_any u z _).mono ?_; rintro e w3 ⟨rfl, hb3⟩; have HS3 : Hid (Sums u d (u - d + z) w w3) := Sums.below HS2.out hb3; have q3 := HS3.out.1; have q4 := HS3.out.2.1; have q5 := HS3.out.2.2.1; have q6 := HS3.out.2.2.2.1; clear hb3))
          all_goals
            have HF : Hid (Sums (u + z) d (u - d + z) w ((w3.setCell ⟨w.heap.size + 1 + 1 + 1, 0, none⟩ (.int .i64 (hi (u + z)))).setCell ⟨w.heap.size + 1 + 1 + 1, 1, none⟩ (.int .u64 (lo (u + z))))) := (Sums.set u d (u - d + z) (u + z) HS3.out).2.1
            go_wp2_with fail
            go_roundw
            case rel =>
              refine ⟨k + 1, by omega, by go_num, ?_⟩
              rw [EU.out, ED.out]
              have e : u + z - d = u - d + z := by omega
              rw [e]; exact HF.out
            case measure => simp [intOf]; omega
        · have EU : Hid (upL (zs.take (k + 1)) = u) := by have := HU.out; unfold Hid; rw [this, if_neg hzp]; omega
          have ED : Hid (dnL (zs.take (k + 1)) = d + -z) := by have := HD.out; unfold Hid; rw [this, if_neg hzp]
          have hzd : decide (0 ≤ z) = false := by simpa using hzp
          clear hu0 hu1 gu0 gu1 ha0 ha1 ga0 ga1 hbr
          clear HU HD hzp
          go_wp2_with fail
          go_region_with (first | (go_at_call 15; refine (of_any z z1 z2 _).mono ?_; rintro e w2 ⟨rfl, hb2⟩; have HS2 : Hid (Sums u d (u - d + z) w w2) := Sums.below (Sums.drew HS.out) hb2; have q0 := HS2.out.2.2.2.2.1; have q1 := HS2.out.2.2.2.2.2.1; clear hb2) | (go_at_call 16; refine (minus_any z _).mono ?_; rintro e w4 ⟨rfl, hb4⟩; have HS4 : Hid (Sums u d (u - d + z) w w4) := Sums.below HS2.out hb4; have r0 := HS4.out.2.2.2.2.1; have r1 := HS4.out.2.2.2.2.2.1; clear hb4) | (go_at_call 14; refine (add_any d (-z) _).mono ?_; rintro e w3 ⟨rfl, hb3⟩; have HS3 : Hid (Sums u d (u - d + z) w w3) := Sums.below HS4.out hb3; have q3 := HS3.out.2.2.2.2.1; have q4 := HS3.out.2.2.2.2.2.1; have q5 := HS3.out.2.2.2.2.2.2.1; have q6 := HS3.out.2.2.2.2.2.2.2.1; clear hb3))
          all_goals
            have HF : Hid (Sums u (d + -z) (u - d + z) w ((w3.setCell ⟨w.heap.size + 1 + 1 + 1 + 1, 0, none⟩ (.int .i64 (hi (d + -z)))).setCell ⟨w.heap.size + 1 + 1 + 1 + 1, 1, none⟩ (.int .u64 (lo (d + -z))))) := (Sums.set u d (u - d + z) (d + -z) HS3.out).2.2
            go_wp2_with fail
            go_roundw
            case rel =>
              refine ⟨k + 1, by omega, by go_num, ?_⟩
              rw [EU.out, ED.out]
              have e : u - (d + -z) = u - d + z := by omega
              rw [e]; exact HF.out
            case measure => simp [intOf]; omega
    · have hke : k = len := by omega
      subst hke
      have hub := ud_bd (zs.take k) (fun x hx => hz x (List.mem_of_mem_take hx))
      have hlen : (zs.take k).length ≤ k := List.length_take_le _ _
      clear hc hz
      generalize upL (zs.take k) = u at *
      generalize dnL (zs.take k) = d at *
      have HS : Hid _ := hS
      have u1 : 0 ≤ u ∧ u ≤ 18446744073709551616000 := by omega
      have d1 : 0 ≤ d ∧ d ≤ 18446744073709551616000 := by omega
      clear hS hub hlen hk hlt hlz hl0
      have HSR : Hid (Sums u d (u - d) w wr) := HS.out
      have gu : decide (0 ≤ hi u) = true := by unfold hi; simp; omega
      have gd : decide (0 ≤ hi d) = true := by unfold hi; simp; omega
      have EA : Hid (u - d + d = u) := by unfold Hid; omega
      have EC : Hid (sgn (u - d) 0 = sgn u d) := by
        unfold Hid sgn
        by_cases h : u < d
        · rw [if_pos h, if_pos (by omega)]
        · by_cases h' : u = d
          · rw [if_neg h, if_pos h', if_neg (by omega), if_pos (by omega)]
          · rw [if_neg h, if_neg h', if_neg (by omega), if_neg (by omega)]
      clear HS
      go_wp2_with fail
      go_region_held3 (fun w' => w'.cell? ⟨w.heap.size + 1 + 1 + 1, 0, none⟩ = some (.int .i64 (hi u)) ∧ w'.cell? ⟨w.heap.size + 1 + 1 + 1, 1, none⟩ = some (.int .u64 (lo u)) ∧ w'.frozen? ⟨w.heap.size + 1 + 1 + 1, 0, none⟩ = false ∧ w'.frozen? ⟨w.heap.size + 1 + 1 + 1, 1, none⟩ = false ∧ w'.cell? ⟨w.heap.size + 1 + 1 + 1 + 1, 0, none⟩ = some (.int .i64 (hi d)) ∧ w'.cell? ⟨w.heap.size + 1 + 1 + 1 + 1, 1, none⟩ = some (.int .u64 (lo d)) ∧ w'.frozen? ⟨w.heap.size + 1 + 1 + 1 + 1, 0, none⟩ = false ∧ w'.frozen? ⟨w.heap.size + 1 + 1 + 1 + 1, 1, none⟩ = false ∧ w'.cell? ⟨w.heap.size + 1 + 1 + 1 + 1 + 1, 0, none⟩ = some (.int .i64 (hi (u - d))) ∧ w'.cell? ⟨w.heap.size + 1 + 1 + 1 + 1 + 1, 1, none⟩ = some (.int .u64 (lo (u - d))) ∧ w'.frozen? ⟨w.heap.size + 1 + 1 + 1 + 1 + 1, 0, none⟩ = false ∧ w'.frozen? ⟨w.heap.size + 1 + 1 + 1 + 1 + 1, 1, none⟩ = false ∧ w.heap.size + 1 + 1 + 1 + 1 + 1 < w'.heap.size ∧ Below w.heap.size w w') (first | exact Sums.below (u := u) (d := d) (a := u - d) (w := w) (by assumption) hb | exact Sums.drew HSR.out)
        (first
          | (go_at_call 8; refine (alive_any _).mono ?_; rintro e w' ⟨rfl, hb⟩)
          | (go_at_call 15; refine (of_any 0 (by decide) (by decide) _).mono ?_; rintro e w' ⟨rfl, hb⟩)
          | (go_at_call 14; refine (add_any (u - d) d _).mono ?_; rw [EA.out]; rintro e w' ⟨rfl, hb⟩)
          | (go_at_call_of 13 (Value.agg #[.int .i64 (hi 0), .int .u64 (lo 0)]); refine (cmp_any (u - d) 0 (by omega) (by omega) (by omega) (by omega) _).mono ?_; rw [EC.out]; rintro e w' ⟨rfl, hb⟩)
          | (go_at_call 13; refine (cmp_any u d (by omega) (by omega) (by omega) (by omega) _).mono ?_; rintro e w' ⟨rfl, hb⟩))
      have HBF : Hid (Below w.heap.size w w') := by
        first
          | exact (show Sums u d (u - d) w w' by assumption).2.2.2.2.2.2.2.2.2.2.2.2.2
          | exact (Sums.below (u := u) (d := d) (a := u - d) (w := w) (by assumption) hb).2.2.2.2.2.2.2.2.2.2.2.2.2
      go_wp2_with fail
      go_ret
      exact ⟨rfl, HBF.out⟩
end Go.Proofs.Ytaleggnhdodcdab
