/- The walk of BloomOrder. -/
import Derived.Test.YtgdjjpnejdedhaaB10
namespace Go.Proofs.Ytgdjjpnejdedhaa
open Go.RowKit

theorem wr_len (n : Nat) (x : Int) (h : (n : Int) = x + 1) (hn : n ≤ 100000) : ((n : Int) == wrap64 (wrap64 x + 1)) = true := by
  unfold wrap64
  simp
  omega
theorem take_rev {L : List (List UInt8)} {k : Nat} (h : k < L.length) : L.reverse.take (k + 1) = L.reverse.take k ++ [L[L.length - 1 - k]] := by
  rw [List.take_add_one, List.getElem?_eq_getElem (by simpa using h), List.getElem_reverse]; rfl
theorem take_fwd {L : List (List UInt8)} {k : Nat} (h : k < L.length) : L.take (k + 1) = L.take k ++ [L[k]] := by
  rw [List.take_add_one, List.getElem?_eq_getElem h]; rfl
set_option maxRecDepth 100000 in
set_option maxHeartbeats 2000000 in
theorem order_walk (d h : Int) (v : Value) (L : List (List UInt8)) (tw : Int) (w : World) (hL : LReads w v L) :
    Calls Try.prog 7 #[.int .i64 d, .int .i64 h, v, .int .i64 tw] w fun e w' => e = .returned (.bool true) ∧ Below w.heap.size w w' := by
  have HL : Hid (LReads w v L) := hL
  obtain ⟨a, cap, rfl, hcap, hm, hL3⟩ := hL
  unfold maxLen at hm
  have HL3 : Hid _ := hL3
  clear hL3
  go_enter Try.func7, Try.ntmps7
  go_wp2_with fail
  refine (new_any d h _).mono ?_
  rintro e w1 (⟨v1, rfl, hok, hf1, hb1⟩ | ⟨rfl, hno, hw1⟩)
  · obtain ⟨B, rfl⟩ := hf1.ptr
    have HF1 : Hid (Fil w1 w.heap.size (.pointer (some ⟨B, 0, none⟩)) h.toNat (List.replicate (d / 8).toNat 0)) := hf1
    have HB1 : Hid (Below w.heap.size w w1) := hb1
    clear hf1 hb1
    go_wp2_with fail
    refine (new_any d h _).mono ?_
    rintro e w2 (⟨v2, rfl, _, hf2, hb2⟩ | ⟨rfl, hno2, hw2⟩)
    · obtain ⟨B2, rfl⟩ := hf2.ptr
      have HX2 : Hid (Fil w2 w1.heap.size (.pointer (some ⟨B2, 0, none⟩)) h.toNat (List.replicate (d / 8).toNat 0)) := hf2
      have HF2 : Hid (FilIn w2 w.heap.size w1.heap.size (.pointer (some ⟨B, 0, none⟩)) h.toNat (List.replicate (d / 8).toNat 0)) := HF1.out.in.below hb2
      have HB2 : Hid (Below w.heap.size w w2) := HB1.out.trans (hb2.mono HB1.out.size)
      have HS2 : Hid (w1.heap.size ≤ w2.heap.size) := hb2.size
      obtain ⟨D, HD⟩ := hid_ex (List.replicate (d / 8).toNat (0 : UInt8))
      rw [← HD.out] at HF2 HX2
      have hD0 := HX2.out.facts.2.2.1
      have hD8 := HX2.out.facts.2.2.2
      have hDl : ((adK h.toNat D L).length + 1 : Int) = d.tdiv 8 + 1 := by
        obtain ⟨o1, o2, o3, _⟩ := hok
        rw [adK_len, HD.out, List.length_replicate, Int.tdiv_eq_ediv_of_nonneg (by omega)]; omega
      have HDL : Hid (((adK h.toNat D L).length + 1 : Int) = d.tdiv 8 + 1) := hDl
      obtain ⟨hn, Hhn⟩ := hid_ex h.toNat
      rw [← Hhn.out] at HF2 HX2 HDL
      clear hf2 hb2 hok HD Hhn HF1 hDl
      go_wp2_with fail
      refine (long_any _ L _ (HL.out.below HB2.out)).mono ?_
      rintro e w3 ⟨rfl, hw3⟩
      subst w3
      cases hlg : lgF L
      · have hL100 := (lg_no hlg).1
        go_wp2_with fail
        go_loopw [13] (fun i wr => ∃ k : Nat, k ≤ L.length ∧ i = .int .i64 (k : Int) ∧ Hid (FilIn wr w.heap.size w1.heap.size (.pointer (some ⟨B, 0, none⟩)) hn (adK hn D (L.take k))) ∧ Hid (Fil wr w1.heap.size (.pointer (some ⟨B2, 0, none⟩)) hn (adK hn D (L.reverse.take k))) ∧ Hid (Below w.heap.size w wr) ∧ Hid (w1.heap.size ≤ wr.heap.size)) (fun i _ => L.length - (intOf i).toNat)
        case atStart => exact ⟨0, by omega, rfl, HF2, HX2, HB2, HS2⟩
        case round =>
          clear HF2 HX2 HB2 HS2
          obtain ⟨k, hk, rfl, HF, HX, HB, HS⟩ := hrel
          by_cases hlt : k < L.length
          · obtain ⟨bA, oA, rfl, hbA, hA⟩ := HL3.out.resolve_left (fun h => by rw [h] at hlt; simp at hlt)
            obtain ⟨vx, hx1, hx2⟩ := hA k hlt
            obtain ⟨X, HXk⟩ := hid_ex L[k]
            rw [← HXk.out] at hx2
            obtain ⟨ax, cx, rfl, _⟩ := hx2.form
            have hcx := (HB.out.cell (p := ⟨bA, oA + k, none⟩) hbA).trans hx1
            have HRX : Hid (Reads wr (.slice ax X.length cx) X) := hx2.below HB.out
            have hlt2 : L.length - 1 - k < L.length := by omega
            obtain ⟨vy, hy1, hy2⟩ := hA (L.length - 1 - k) hlt2
            obtain ⟨Y, HYk⟩ := hid_ex L[L.length - 1 - k]
            rw [← HYk.out] at hy2
            obtain ⟨ay, cy, rfl, _⟩ := hy2.form
            have HY1 : Hid (w.cell? ⟨bA, oA + (L.length - 1 - k), none⟩ = some (.slice ay Y.length cy)) := hy1
            have HRY : Hid (Reads w (.slice ay Y.length cy) Y) := hy2
            clear hA hx1 hx2 hy1 hy2
            go_wp2_with fail
            refine (add_two _ _ _ _ X _ _ _ HB.out.size HF.out HRX.out).mono ?_
            rintro e w3 ⟨rfl, hf3, hk3, hb3⟩
            have HF3 : Hid (FilIn w3 w.heap.size w1.heap.size (.pointer (some ⟨B, 0, none⟩)) hn (adK hn D (L.take (k + 1)))) := by
              rw [take_fwd hlt, ← HXk.out, adK_snoc]; exact hf3
            have HX3 : Hid (Fil w3 w1.heap.size (.pointer (some ⟨B2, 0, none⟩)) hn (adK hn D (L.reverse.take k))) := hk3 _ _ _ HX.out
            have HB3 : Hid (Below w.heap.size w w3) := HB.out.trans hb3
            have HS3 : Hid (w1.heap.size ≤ w3.heap.size) := Nat.le_trans HS.out hb3.size
            have hcy := (HB3.out.cell (p := ⟨bA, oA + (L.length - 1 - k), none⟩) hbA).trans HY1.out
            have q1 : ((L.length : Int) - 1 - (k : Int)).toNat = L.length - 1 - k := by omega
            have q2 : 0 ≤ (L.length : Int) - 1 - (k : Int) := by omega
            have q3 : (L.length : Int) - 1 - (k : Int) < (L.length : Int) := by omega
            clear hf3 hk3 hb3 HF HX HB HRX hcx HS
            go_wp2_with fail
            refine (add_any _ _ _ _ Y _ _ HS3.out HX3.out (HRY.out.below HB3.out)).mono ?_
            rintro e w4 ⟨rfl, hf4, hb4, _⟩
            have HX4 : Hid (Fil w4 w1.heap.size (.pointer (some ⟨B2, 0, none⟩)) hn (adK hn D (L.reverse.take (k + 1)))) := by
              rw [take_rev hlt, ← HYk.out, adK_snoc]; exact hf4
            have HF4 : Hid (FilIn w4 w.heap.size w1.heap.size (.pointer (some ⟨B, 0, none⟩)) hn (adK hn D (L.take (k + 1)))) := HF3.out.below hb4
            have HB4 : Hid (Below w.heap.size w w4) := HB3.out.trans (hb4.mono HB1.out.size)
            have HS4 : Hid (w1.heap.size ≤ w4.heap.size) := Nat.le_trans HS3.out hb4.size
            clear hf4 hb4 HF3 HX3 HB3 hcy HS3 HXk HYk q1 q2 q3
            go_wp2_with fail
            go_roundw
            case rel => exact ⟨k + 1, by omega, by go_num, HF4, HX4, HB4, HS4⟩
            case measure => simp [intOf]; omega
          · have hke : k = L.length := by omega
            have HF0 : Hid (FilIn wr w.heap.size w1.heap.size (.pointer (some ⟨B, 0, none⟩)) hn (adK hn D L)) := by have := HF.out; rw [hke, List.take_length] at this; exact this
            have HX0 : Hid (Fil wr w1.heap.size (.pointer (some ⟨B2, 0, none⟩)) hn (adK hn D L)) := by
              have := HX.out
              rw [hke, List.take_of_length_le (by simp)] at this
              rw [adK_same hD0 (M := L.reverse) (fun l => by simp)]; exact this
            clear HF HX hke
            by_cases ht : 0 ≤ tw ∧ tw < (L.length : Int)
            · obtain ⟨ht1, ht2⟩ := ht
              obtain ⟨tn, rfl⟩ : ∃ tn : Nat, tw = (tn : Int) := ⟨tw.toNat, by omega⟩
              have hlt : tn < L.length := by omega
              obtain ⟨bA, oA, rfl, hbA, hA⟩ := HL3.out.resolve_left (fun h => by rw [h] at hlt; simp at hlt)
              obtain ⟨vx, hx1, hx2⟩ := hA tn hlt
              obtain ⟨X, HXk⟩ := hid_ex L[tn]
              rw [← HXk.out] at hx2
              obtain ⟨ax, cx, rfl, _⟩ := hx2.form
              have hcx := (HB.out.cell (p := ⟨bA, oA + tn, none⟩) hbA).trans hx1
              have HRX : Hid (Reads wr (.slice ax X.length cx) X) := hx2.below HB.out
              clear hA hx1 hx2
              go_wp2_with fail
              refine (add_two _ _ _ _ X _ _ _ HB.out.size HF0.out HRX.out).mono ?_
              rintro e w3 ⟨rfl, hf3, hk3, hb3⟩
              have HF3 : Hid (FilIn w3 w.heap.size w1.heap.size (.pointer (some ⟨B, 0, none⟩)) hn (adK hn D L)) := by
                have e1 : adK hn D L = adK hn D (L ++ [X]) := adK_same hD0 (fun l => by
                  constructor
                  · intro h; exact List.mem_append_left _ h
                  · intro h
                    rcases List.mem_append.1 h with h | h
                    · exact h
                    · simp at h; rw [h, HXk.out]; exact List.getElem_mem hlt)
                rw [e1, adK_snoc]; exact hf3
              have HX3 : Hid (Fil w3 w1.heap.size (.pointer (some ⟨B2, 0, none⟩)) hn (adK hn D L)) := hk3 _ _ _ HX0.out
              have HB3 : Hid (Below w.heap.size w w3) := HB.out.trans hb3
              clear hf3 hk3 hb3 HF0 HX0 HB HRX hcx HXk
              go_wp2_with fail
              refine (write_any _ _ _ _ _ HF3.out.fil).mono ?_
              rintro e w6 ⟨v6, rfl, ho6, hb6⟩
              have HB6 : Hid (Below w.heap.size w w6) := HB3.out.trans (hb6.mono HB3.out.size)
              have HX6 : Hid (Fil w6 w1.heap.size (.pointer (some ⟨B2, 0, none⟩)) hn (adK hn D L)) := HX3.out.below hb6
              obtain ⟨A, HA⟩ := hid_ex (UInt8.ofNat hn :: adK hn D L)
              have HAn : Hid (A.length ≤ 100000) := by unfold Hid; rw [HA.out, List.length_cons, adK_len]; have := hD8; omega
              have HAL : Hid ((A.length : Int) = d.tdiv 8 + 1) := by unfold Hid; rw [HA.out, ← HDL.out]; simp
              rw [← HA.out] at ho6
              have HR6 : Hid (Reads w6 v6 A) := ho6.reads
              obtain ⟨a6, c6, rfl, _⟩ := ho6.form
              clear ho6 hb6
              go_wp2_with fail
              refine (write_any _ _ _ _ _ HX6.out).mono ?_
              rintro e w7 ⟨v7, rfl, ho7, hb7⟩
              rw [← HA.out] at ho7
              have HB7 : Hid (Below w.heap.size w w7) := HB6.out.trans (hb7.mono HB6.out.size)
              have HR7 : Hid (Reads w7 v7 A) := ho7.reads
              have HR67 : Hid (Reads w7 (.slice a6 A.length c6) A) := HR6.out.below hb7
              obtain ⟨a7, c7, rfl, _⟩ := ho7.form
              clear ho7 hb7 HR6 HX6 HB6
              go_wp2_with fail
              refine (alive_any _).mono ?_
              rintro e w8 ⟨rfl, hb8⟩
              have HB8 : Hid (Below w.heap.size w w8) := HB7.out.trans (hb8.mono HB7.out.size)
              have hcv1 := reads_text (HR67.out.below hb8)
              have hcv2 := reads_text (HR7.out.below hb8)
              have hq := HAL.out
              have HQB : Hid (d.tdiv 8 + 1 = (A.length : Int)) := hq.symm
              clear hb8 HR7 HR67 HB7 hq HA
              go_wp2_with fail
              go_ret
              exact ⟨congrArg (fun b => Ending.returned (Value.bool b)) (wr_len _ _ HQB.out.symm HAn.out), HB8.out⟩
            · have ht' : ¬ (0 ≤ tw) ∨ ¬ (tw < (L.length : Int)) := by omega
              rcases ht' with ht' | ht'
              · go_wp2_with fail
                refine (write_any _ _ _ _ _ HF0.out.fil).mono ?_
                rintro e w6 ⟨v6, rfl, ho6, hb6⟩
                have HB6 : Hid (Below w.heap.size w w6) := HB.out.trans (hb6.mono HB.out.size)
                have HX6 : Hid (Fil w6 w1.heap.size (.pointer (some ⟨B2, 0, none⟩)) hn (adK hn D L)) := HX0.out.below hb6
                obtain ⟨A, HA⟩ := hid_ex (UInt8.ofNat hn :: adK hn D L)
                have HAn : Hid (A.length ≤ 100000) := by unfold Hid; rw [HA.out, List.length_cons, adK_len]; have := hD8; omega
                have HAL : Hid ((A.length : Int) = d.tdiv 8 + 1) := by unfold Hid; rw [HA.out, ← HDL.out]; simp
                rw [← HA.out] at ho6
                have HR6 : Hid (Reads w6 v6 A) := ho6.reads
                obtain ⟨a6, c6, rfl, _⟩ := ho6.form
                clear ho6 hb6
                go_wp2_with fail
                refine (write_any _ _ _ _ _ HX6.out).mono ?_
                rintro e w7 ⟨v7, rfl, ho7, hb7⟩
                rw [← HA.out] at ho7
                have HB7 : Hid (Below w.heap.size w w7) := HB6.out.trans (hb7.mono HB6.out.size)
                have HR7 : Hid (Reads w7 v7 A) := ho7.reads
                have HR67 : Hid (Reads w7 (.slice a6 A.length c6) A) := HR6.out.below hb7
                obtain ⟨a7, c7, rfl, _⟩ := ho7.form
                clear ho7 hb7 HR6 HX6 HB6
                go_wp2_with fail
                refine (alive_any _).mono ?_
                rintro e w8 ⟨rfl, hb8⟩
                have HB8 : Hid (Below w.heap.size w w8) := HB7.out.trans (hb8.mono HB7.out.size)
                have hcv1 := reads_text (HR67.out.below hb8)
                have hcv2 := reads_text (HR7.out.below hb8)
                have hq := HAL.out
                have HQB : Hid (d.tdiv 8 + 1 = (A.length : Int)) := hq.symm
                clear hb8 HR7 HR67 HB7 hq HA
                go_wp2_with fail
                go_ret
                exact ⟨congrArg (fun b => Ending.returned (Value.bool b)) (wr_len _ _ HQB.out.symm HAn.out), HB8.out⟩
              · by_cases ht0 : 0 ≤ tw
                · go_wp2_with fail
                  refine (write_any _ _ _ _ _ HF0.out.fil).mono ?_
                  rintro e w6 ⟨v6, rfl, ho6, hb6⟩
                  have HB6 : Hid (Below w.heap.size w w6) := HB.out.trans (hb6.mono HB.out.size)
                  have HX6 : Hid (Fil w6 w1.heap.size (.pointer (some ⟨B2, 0, none⟩)) hn (adK hn D L)) := HX0.out.below hb6
                  obtain ⟨A, HA⟩ := hid_ex (UInt8.ofNat hn :: adK hn D L)
                  have HAn : Hid (A.length ≤ 100000) := by unfold Hid; rw [HA.out, List.length_cons, adK_len]; have := hD8; omega
                  have HAL : Hid ((A.length : Int) = d.tdiv 8 + 1) := by unfold Hid; rw [HA.out, ← HDL.out]; simp
                  rw [← HA.out] at ho6
                  have HR6 : Hid (Reads w6 v6 A) := ho6.reads
                  obtain ⟨a6, c6, rfl, _⟩ := ho6.form
                  clear ho6 hb6
                  go_wp2_with fail
                  refine (write_any _ _ _ _ _ HX6.out).mono ?_
                  rintro e w7 ⟨v7, rfl, ho7, hb7⟩
                  rw [← HA.out] at ho7
                  have HB7 : Hid (Below w.heap.size w w7) := HB6.out.trans (hb7.mono HB6.out.size)
                  have HR7 : Hid (Reads w7 v7 A) := ho7.reads
                  have HR67 : Hid (Reads w7 (.slice a6 A.length c6) A) := HR6.out.below hb7
                  obtain ⟨a7, c7, rfl, _⟩ := ho7.form
                  clear ho7 hb7 HR6 HX6 HB6
                  go_wp2_with fail
                  refine (alive_any _).mono ?_
                  rintro e w8 ⟨rfl, hb8⟩
                  have HB8 : Hid (Below w.heap.size w w8) := HB7.out.trans (hb8.mono HB7.out.size)
                  have hcv1 := reads_text (HR67.out.below hb8)
                  have hcv2 := reads_text (HR7.out.below hb8)
                  have hq := HAL.out
                  have HQB : Hid (d.tdiv 8 + 1 = (A.length : Int)) := hq.symm
                  clear hb8 HR7 HR67 HB7 hq HA
                  go_wp2_with fail
                  go_ret
                  exact ⟨congrArg (fun b => Ending.returned (Value.bool b)) (wr_len _ _ HQB.out.symm HAn.out), HB8.out⟩
                · exfalso; omega
      · go_wp2_with fail
        refine (alive_any _).mono ?_
        rintro e w4 ⟨rfl, hb4⟩
        have HB4 : Hid (Below w.heap.size w w4) := HB2.out.trans (hb4.mono HB2.out.size)
        clear hb4
        go_wp2_with fail
        go_ret
        exact ⟨rfl, HB4.out⟩
    · exact absurd hok hno2
  · subst w1
    go_wp2_with fail
    refine (new_no d h hno _).mono ?_
    rintro e w2 ⟨rfl, hw2⟩
    subst w2
    go_wp2_with fail
    refine (alive_any _).mono ?_
    rintro e w4 ⟨rfl, hb4⟩
    go_wp2_with fail
    go_ret
    exact ⟨rfl, hb4⟩
end Go.Proofs.Ytgdjjpnejdedhaa
