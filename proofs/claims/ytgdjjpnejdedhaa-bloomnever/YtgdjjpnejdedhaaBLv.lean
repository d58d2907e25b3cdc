/- The walk of BloomNever. -/
import Derived.Test.YtgdjjpnejdedhaaB10
namespace Go.Proofs.Ytgdjjpnejdedhaa
open Go.RowKit

set_option maxRecDepth 100000 in
set_option maxHeartbeats 1000000 in
theorem never_walk (d h : Int) (v : Value) (L : List (List UInt8)) (w : World) (hL : LReads w v L) :
    Calls Try.prog 6 #[.int .i64 d, .int .i64 h, v] w fun e w' => e = .returned (.bool true) ∧ Below w.heap.size w w' := by
  have HL : Hid (LReads w v L) := hL
  obtain ⟨a, cap, rfl, hcap, hm, hL3⟩ := hL
  unfold maxLen at hm
  have HL3 : Hid _ := hL3
  clear hL3
  go_enter Try.func6, Try.ntmps6
  go_wp2_with fail
  refine (new_any d h _).mono ?_
  rintro e w1 (⟨v1, rfl, hok, hf1, hb1⟩ | ⟨rfl, hno, hw1⟩)
  · obtain ⟨B, rfl⟩ := hf1.ptr
    have HF1 : Hid (Fil w1 w.heap.size (.pointer (some ⟨B, 0, none⟩)) h.toNat (List.replicate (d / 8).toNat 0)) := hf1
    have HB1 : Hid (Below w.heap.size w w1) := hb1
    obtain ⟨D, HD⟩ := hid_ex (List.replicate (d / 8).toNat (0 : UInt8))
    rw [← HD.out] at HF1
    have hD0 := HF1.out.facts.2.2.1
    obtain ⟨hn, Hhn⟩ := hid_ex h.toNat
    rw [← Hhn.out] at HF1
    clear hf1 hb1 hok HD Hhn
    go_wp2_with fail
    refine (long_any _ L _ (HL.out.below HB1.out)).mono ?_
    rintro e w2 ⟨rfl, hw2⟩
    subst w2
    cases hlg : lgF L
    · go_wp2_with fail
      go_loopw [9] (fun i wr => ∃ k : Nat, k ≤ L.length ∧ i = .int .i64 (k : Int) ∧ Hid (Fil wr w.heap.size (.pointer (some ⟨B, 0, none⟩)) hn (adK hn D (L.take k))) ∧ Hid (Below w.heap.size w wr)) (fun i _ => L.length - (intOf i).toNat)
      case atStart => exact ⟨0, by omega, rfl, HF1, HB1⟩
      case round =>
        obtain ⟨k, hk, rfl, HF, HB⟩ := hrel
        by_cases hlt : k < L.length
        · obtain ⟨bA, oA, rfl, hbA, hA⟩ := HL3.out.resolve_left (fun h => by rw [h] at hlt; simp at hlt)
          obtain ⟨vx, hx1, hx2⟩ := hA k hlt
          obtain ⟨X, HX⟩ := hid_ex L[k]
          rw [← HX.out] at hx2
          obtain ⟨ax, cx, rfl, _⟩ := hx2.form
          have hcx := (HB.out.cell (p := ⟨bA, oA + k, none⟩) hbA).trans hx1
          have HRX : Hid (Reads _ (.slice ax X.length cx) X) := hx2.below HB.out
          clear hA hx1 hx2
          go_wp2_with fail
          refine (add_any _ _ _ _ X _ _ HB.out.size HF.out HRX.out).mono ?_
          rintro e w2 ⟨rfl, hf2, hb2, _⟩
          have HF2 : Hid (Fil w2 w.heap.size (.pointer (some ⟨B, 0, none⟩)) hn (adK hn D (L.take (k + 1)))) := by
            rw [List.take_add_one, List.getElem?_eq_getElem hlt, ← HX.out]
            show Fil _ _ _ _ (adK hn D (L.take k ++ [X]))
            rw [adK_snoc]; exact hf2
          have HB2 : Hid (Below w.heap.size w w2) := HB.out.trans hb2
          clear hf2 hb2 HF HB HRX HX hcx
          go_wp2_with fail
          go_roundw
          case rel => exact ⟨k + 1, by omega, by go_num, HF2, HB2⟩
          case measure => simp [intOf]; omega
        · have hke : k = L.length := by omega
          have HF0 : Hid (Fil wr w.heap.size (.pointer (some ⟨B, 0, none⟩)) hn (adK hn D L)) := by have := HF.out; rw [hke, List.take_length] at this; exact this
          clear HF hke
          go_wp2_with fail
          refine (write_any _ _ _ _ _ HF0.out).mono ?_
          rintro e w2 ⟨v2, rfl, ho2, hb2⟩
          have HB2 : Hid (Below w.heap.size w w2) := HB.out.trans (hb2.mono HB.out.size)
          have HF2 : Hid (Fil w2 w.heap.size (.pointer (some ⟨B, 0, none⟩)) hn (adK hn D L)) := HF0.out.below hb2
          have HR2 : Hid (Reads w2 v2 (UInt8.ofNat hn :: adK hn D L)) := ho2.reads
          obtain ⟨a2, c2, rfl, _⟩ := ho2.form
          clear ho2 hb2 HB HF0
          go_wp2_with fail
          have hfc := HF2.out.facts
          have e8 : (UInt8.ofNat hn).toNat = hn := by rw [UInt8.toNat_ofNat', Nat.mod_eq_of_lt (by omega)]
          have HOK : Hid (rdOk (UInt8.ofNat hn :: adK hn D L)) := ⟨by simp only [List.length_cons]; omega, by simp only [List.length_cons]; omega, by simp only [List.getD_cons_zero]; omega, by simp only [List.getD_cons_zero]; omega⟩
          refine (read_ok _ _ _ HR2.out HOK.out).mono ?_
          rintro e w3 ⟨v3, rfl, hf3, hb3⟩
          rw [List.getD_cons_zero, e8] at hf3
          obtain ⟨B3, rfl⟩ := hf3.ptr
          have HF3 : Hid (Fil w3 w2.heap.size (.pointer (some ⟨B3, 0, none⟩)) hn (adK hn D L)) := hf3
          have HF3' : Hid (Fil w3 w.heap.size (.pointer (some ⟨B, 0, none⟩)) hn (adK hn D L)) := HF2.out.below hb3
          have HB3 : Hid (Below w.heap.size w w3) := HB2.out.trans (hb3.mono HB2.out.size)
          clear hf3 hb3 HF2 HB2 HR2 HOK hfc e8
          go_wp2_with fail
          go_loopw [14] (fun i wr => ∃ k : Nat, k ≤ L.length ∧ i = .int .i64 (k : Int) ∧ Hid (Fil wr w2.heap.size (.pointer (some ⟨B3, 0, none⟩)) hn (adK hn D L)) ∧ Hid (Fil wr w.heap.size (.pointer (some ⟨B, 0, none⟩)) hn (adK hn D L)) ∧ Hid (Below w.heap.size w wr)) (fun i _ => L.length - (intOf i).toNat)
          case atStart => exact ⟨0, by omega, rfl, HF3, HF3', HB3⟩
          case round =>
            clear HF3 HF3' HB3
            obtain ⟨k, hk, rfl, HX3, HF, HB⟩ := hrel
            by_cases hlt : k < L.length
            · obtain ⟨bA, oA, rfl, hbA, hA⟩ := HL3.out.resolve_left (fun h => by rw [h] at hlt; simp at hlt)
              obtain ⟨vx, hx1, hx2⟩ := hA k hlt
              obtain ⟨X, HX⟩ := hid_ex L[k]
              rw [← HX.out] at hx2
              obtain ⟨ax, cx, rfl, _⟩ := hx2.form
              have hcx := (HB.out.cell (p := ⟨bA, oA + k, none⟩) hbA).trans hx1
              have HRX : Hid (Reads w (.slice ax X.length cx) X) := hx2
              have HMY : Hid (myF (adK hn D L) (plc X (8 * (adK hn D L).length) hn) = true) := by
                unfold Hid; rw [adK_len, HX.out]; exact my_adK hD0 (List.getElem_mem hlt)
              have HC : Hid (w.cell? ⟨bA, oA + k, none⟩ = some (.slice ax X.length cx)) := hx1
              clear hA hx1 hx2
              go_wp2_with fail
              refine (may_any _ _ _ _ X _ _ HF.out (HRX.out.below HB.out)).mono ?_
              rintro e w4 ⟨rfl, hb4⟩
              rw [HMY.out]
              have HF4 : Hid (Fil w4 w.heap.size (.pointer (some ⟨B, 0, none⟩)) hn (adK hn D L)) := HF.out.below hb4
              have HX4 : Hid (Fil w4 w2.heap.size (.pointer (some ⟨B3, 0, none⟩)) hn (adK hn D L)) := HX3.out.below hb4
              have HB4 : Hid (Below w.heap.size w w4) := HB.out.trans (hb4.mono HB.out.size)
              have hcx4 := (HB4.out.cell (p := ⟨bA, oA + k, none⟩) hbA).trans HC.out
              clear hb4 HF HX3 HB hcx
              go_wp2_with fail
              refine (may_any _ _ _ _ X _ _ HX4.out (HRX.out.below HB4.out)).mono ?_
              rintro e w5 ⟨rfl, hb5⟩
              rw [HMY.out]
              have HF5 : Hid (Fil w5 w.heap.size (.pointer (some ⟨B, 0, none⟩)) hn (adK hn D L)) := HF4.out.below hb5
              have HX5 : Hid (Fil w5 w2.heap.size (.pointer (some ⟨B3, 0, none⟩)) hn (adK hn D L)) := HX4.out.below hb5
              have HB5 : Hid (Below w.heap.size w w5) := HB4.out.trans (hb5.mono HB4.out.size)
              clear hb5 HF4 HX4 HB4 hcx4
              go_wp2_with fail
              go_roundw
              case rel => exact ⟨k + 1, by omega, by go_num, HX5, HF5, HB5⟩
              case measure => simp [intOf]; omega
            · go_wp2_with fail
              refine (alive_any _).mono ?_
              rintro e w4 ⟨rfl, hb4⟩
              have HB4 : Hid (Below w.heap.size w w4) := HB.out.trans (hb4.mono HB.out.size)
              clear hb4
              go_wp2_with fail
              go_ret
              exact ⟨rfl, HB4.out⟩
    · go_wp2_with fail
      refine (alive_any _).mono ?_
      rintro e w4 ⟨rfl, hb4⟩
      have HB4 : Hid (Below w.heap.size w w4) := HB1.out.trans (hb4.mono HB1.out.size)
      clear hb4
      go_wp2_with fail
      go_ret
      exact ⟨rfl, HB4.out⟩
  · subst w1
    go_wp2_with fail
    refine (alive_any _).mono ?_
    rintro e w4 ⟨rfl, hb4⟩
    go_wp2_with fail
    go_ret
    exact ⟨rfl, hb4⟩
end Go.Proofs.Ytgdjjpnejdedhaa
