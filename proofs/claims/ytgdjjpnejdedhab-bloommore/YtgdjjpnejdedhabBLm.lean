/- The walk of BloomMore. -/
import Derived.Test.YtgdjjpnejdedhabB10
namespace Go.Proofs.Ytgdjjpnejdedhab
open Go.RowKit

theorem take_fwd {L : List (List UInt8)} {k : Nat} (h : k < L.length) : L.take (k + 1) = L.take k ++ [L[k]] := by
  rw [List.take_add_one, List.getElem?_eq_getElem h]; rfl
set_option maxRecDepth 100000 in
set_option maxHeartbeats 2000000 in
theorem more_walk (d h : Int) (v : Value) (L : List (List UInt8)) (kv : Value) (key : List UInt8) (mv : Value) (mo : List UInt8) (w : World) (hL : LReads w v L) (hK : Reads w kv key) (hM : Reads w mv mo) :
    Calls Try.prog 3 #[.int .i64 d, .int .i64 h, v, kv, mv] w fun e w' => e = .returned (.bool true) ∧ Below w.heap.size w w' := by
  have HL : Hid (LReads w v L) := hL
  obtain ⟨a, cap, rfl, hcap, hm, hL3⟩ := hL
  unfold maxLen at hm
  have HL3 : Hid _ := hL3
  have HK : Hid (Reads w kv key) := hK
  have HM : Hid (Reads w mv mo) := hM
  obtain ⟨ak, ck, rfl, _⟩ := hK.form
  obtain ⟨am, cm, rfl, _⟩ := hM.form
  clear hL3 hK hM
  go_enter Try.func3, Try.ntmps3
  go_wp2_with fail
  refine (new_any d h _).mono ?_
  rintro e w1 (⟨v1, rfl, hok, hf1, hb1⟩ | ⟨rfl, hno, hw1⟩)
  · obtain ⟨B, rfl⟩ := hf1.ptr
    have HF1 : Hid (Fil w1 w.heap.size (.pointer (some ⟨B, 0, none⟩)) h.toNat (List.replicate (d / 8).toNat 0)) := hf1
    have HB1 : Hid (Below w.heap.size w w1) := hb1
    obtain ⟨D, HD⟩ := hid_ex (List.replicate (d / 8).toNat (0 : UInt8))
    rw [← HD.out] at HF1
    have hD0 := HF1.out.facts.2.2.1
    obtain ⟨hn, Hhn⟩ := hid_ex h.toNat
    rw [← Hhn.out] at HF1
    clear hf1 hb1 hok HD Hhn
    go_wp2_with fail
    refine (long_any _ L _ (HL.out.below HB1.out)).mono ?_
    rintro e w2 ⟨rfl, hw2⟩
    subst w2
    cases hlg : lgF L
    · by_cases g1 : (300 : Int) < (key.length : Int)
      · go_wp2_with fail
        refine (alive_any _).mono ?_
        rintro e w4 ⟨rfl, hb4⟩
        have HB4 : Hid (Below w.heap.size w w4) := HB1.out.trans (hb4.mono HB1.out.size)
        clear hb4
        go_wp2_with fail
        go_ret
        exact ⟨rfl, HB4.out⟩
      by_cases g2 : (300 : Int) < (mo.length : Int)
      · go_wp2_with fail
        refine (alive_any _).mono ?_
        rintro e w4 ⟨rfl, hb4⟩
        have HB4 : Hid (Below w.heap.size w w4) := HB1.out.trans (hb4.mono HB1.out.size)
        clear hb4
        go_wp2_with fail
        go_ret
        exact ⟨rfl, HB4.out⟩
      go_wp2_with fail
      go_loopw [13] (fun i wr => ∃ k : Nat, k ≤ L.length ∧ i = .int .i64 (k : Int) ∧ Hid (Fil wr w.heap.size (.pointer (some ⟨B, 0, none⟩)) hn (adK hn D (L.take k))) ∧ Hid (Below w.heap.size w wr)) (fun i _ => L.length - (intOf i).toNat)
      case atStart => exact ⟨0, by omega, rfl, HF1, HB1⟩
      case round =>
        obtain ⟨k, hk, rfl, HF, HB⟩ := hrel
        clear HF1 HB1
        by_cases hlt : k < L.length
        · obtain ⟨bA, oA, rfl, hbA, hA⟩ := HL3.out.resolve_left (fun h => by rw [h] at hlt; simp at hlt)
          obtain ⟨vx, hx1, hx2⟩ := hA k hlt
          obtain ⟨X, HX⟩ := hid_ex L[k]
          rw [← HX.out] at hx2
          obtain ⟨ax, cx, rfl, _⟩ := hx2.form
          have hcx := (HB.out.cell (p := ⟨bA, oA + k, none⟩) hbA).trans hx1
          have HRX : Hid (Reads _ (.slice ax X.length cx) X) := hx2.below HB.out
          clear hA hx1 hx2
          go_wp2_with fail
          refine (add_any _ _ _ _ X _ _ HB.out.size HF.out HRX.out).mono ?_
          rintro e w2 ⟨rfl, hf2, hb2, _⟩
          have HF2 : Hid (Fil w2 w.heap.size (.pointer (some ⟨B, 0, none⟩)) hn (adK hn D (L.take (k + 1)))) := by
            rw [take_fwd hlt, ← HX.out, adK_snoc]; exact hf2
          have HB2 : Hid (Below w.heap.size w w2) := HB.out.trans hb2
          clear hf2 hb2 HF HB HRX HX hcx
          go_wp2_with fail
          go_roundw
          case rel => exact ⟨k + 1, by omega, by go_num, HF2, HB2⟩
          case measure => simp [intOf]; omega
        · obtain ⟨E, HE⟩ := hid_ex (adK hn D (L.take k))
          rw [← HE.out] at HF
          have hE0 := HF.out.facts.2.2.1
          clear HE
          go_wp2_with fail
          refine (may_any _ _ _ _ key _ _ HF.out (HK.out.below HB.out)).mono ?_
          rintro e w2 ⟨rfl, hb2⟩
          obtain ⟨was, Hwas⟩ := hid_ex (myF E (plc key (8 * E.length) hn))
          rw [← Hwas.out]
          have HF2 : Hid (Fil w2 w.heap.size (.pointer (some ⟨B, 0, none⟩)) hn E) := HF.out.below hb2
          have HB2 : Hid (Below w.heap.size w w2) := HB.out.trans (hb2.mono HB.out.size)
          clear hb2 HF HB
          go_wp2_with fail
          refine (add_any _ _ _ _ mo _ _ HB2.out.size HF2.out (HM.out.below HB2.out)).mono ?_
          rintro e w3 ⟨rfl, hf3, hb3, _⟩
          have HF3 : Hid (Fil w3 w.heap.size (.pointer (some ⟨B, 0, none⟩)) hn (adF E (plc mo (8 * E.length) hn))) := hf3
          have HB3 : Hid (Below w.heap.size w w3) := HB2.out.trans hb3
          clear hf3 hb3 HF2 HB2
          go_wp2_with fail
          refine (alive_any _).mono ?_
          rintro e w4 ⟨rfl, hb4⟩
          have HF4 : Hid (Fil w4 w.heap.size (.pointer (some ⟨B, 0, none⟩)) hn (adF E (plc mo (8 * E.length) hn))) := HF3.out.below hb4
          have HB4 : Hid (Below w.heap.size w w4) := HB3.out.trans (hb4.mono HB3.out.size)
          clear hb4 HF3 HB3
          cases hw : was
          · go_wp2_with fail
            refine (may_any _ _ _ _ mo _ _ HF4.out (HM.out.below HB4.out)).mono ?_
            rintro e w6 ⟨rfl, hb6⟩
            rw [adF_len, my_added _ _ (plc_in hE0)]
            have HB6 : Hid (Below w.heap.size w w6) := HB4.out.trans (hb6.mono HB4.out.size)
            clear hb6 HF4 HB4
            go_wp2_with fail
            go_ret
            exact ⟨rfl, HB6.out⟩
          · have HMY : Hid (myF (adF E (plc mo (8 * E.length) hn)) (plc key (8 * E.length) hn) = true) := my_more _ _ (plc_in hE0) _ (by rw [← Hwas.out, hw])
            go_wp2_with fail
            refine (may_any _ _ _ _ key _ _ HF4.out (HK.out.below HB4.out)).mono ?_
            rintro e w5 ⟨rfl, hb5⟩
            rw [adF_len, HMY.out]
            have HF5 : Hid (Fil w5 w.heap.size (.pointer (some ⟨B, 0, none⟩)) hn (adF E (plc mo (8 * E.length) hn))) := HF4.out.below hb5
            have HB5 : Hid (Below w.heap.size w w5) := HB4.out.trans (hb5.mono HB4.out.size)
            clear hb5 HF4 HB4
            go_wp2_with fail
            refine (may_any _ _ _ _ mo _ _ HF5.out (HM.out.below HB5.out)).mono ?_
            rintro e w6 ⟨rfl, hb6⟩
            rw [adF_len, my_added _ _ (plc_in hE0)]
            have HB6 : Hid (Below w.heap.size w w6) := HB5.out.trans (hb6.mono HB5.out.size)
            clear hb6 HF5 HB5
            go_wp2_with fail
            go_ret
            exact ⟨rfl, HB6.out⟩
    · go_wp2_with fail
      refine (alive_any _).mono ?_
      rintro e w4 ⟨rfl, hb4⟩
      have HB4 : Hid (Below w.heap.size w w4) := HB1.out.trans (hb4.mono HB1.out.size)
      clear hb4
      go_wp2_with fail
      go_ret
      exact ⟨rfl, HB4.out⟩
  · subst w1
    go_wp2_with fail
    refine (alive_any _).mono ?_
    rintro e w4 ⟨rfl, hb4⟩
    go_wp2_with fail
    go_ret
    exact ⟨rfl, hb4⟩
end Go.Proofs.Ytgdjjpnejdedhab
