/- The walk of SkipRises. -/
import Derived.Test.YtagaakbbfohbpaaST
namespace Go.Proofs.Ytagaakbbfohbpaa
open Go.RowKit

theorem less_iff : ∀ a b : Ks, Op.bytesLess a b = true ↔ Lib.compareBytes a b = -1
  | [], [] => by simp [Op.bytesLess, Lib.compareBytes]
  | [], _ :: _ => by simp [Op.bytesLess, Lib.compareBytes]
  | _ :: _, [] => by simp [Op.bytesLess, Lib.compareBytes]
  | x :: a, y :: b => by
    have ih := less_iff a b
    simp only [Op.bytesLess, Lib.compareBytes]
    by_cases h1 : x < y
    · simp [h1]
    · rw [if_neg h1]
      by_cases h2 : y < x
      · have : x ≠ y := fun e => by subst e; exact h1 h2
        simp [h1, h2, this]
      · have : x = y := u8_tri h1 h2
        subst this
        simp [ih]
theorem less_ltK (a b : Ks) : Op.bytesLess a b = decide (ltK a b) := by
  rw [Bool.eq_iff_iff, less_iff, decide_eq_true_iff]; rfl
/-- Where the keys that are not less begin, so far. -/
def frF (E : List En) (key : Ks) (k : Nat) : Nat := if k ≤ plK (keysE E) key then k else plK (keysE E) key
theorem frF_succ {E : List En} (hs : srt E) (key : Ks) {k : Nat} (hk : k < E.length) : frF E key (k + 1) = if ltK E[k].1 key then k + 1 else frF E key k := by
  have hl : (keysE E).length = E.length := by simp [keysE]
  have hg : (keysE E)[k]'(by omega) = E[k].1 := by simp [keysE]
  by_cases h : k < plK (keysE E) key
  · have h1 := plK_lt h (by omega)
    rw [hg] at h1
    rw [if_pos h1]
    unfold frF
    rw [if_pos (by omega)]
  · have h1 := plK_ge hs (Nat.le_of_not_lt h) (by omega)
    rw [hg] at h1
    rw [if_neg h1]
    unfold frF
    rw [if_neg (by omega)]
    by_cases h2 : k = plK (keysE E) key
    · rw [if_pos (by omega), h2]
    · rw [if_neg (by omega)]
theorem frF_all (E : List En) (key : Ks) : frF E key E.length = plK (keysE E) key := by
  have := pl_len E key
  unfold frF
  split
  · omega
  · rfl
theorem srt_next {E : List En} (hs : srt E) {k : Nat} (h0 : 0 < k) (hk : k < E.length) : ltK (E[k - 1]'(by omega)).1 E[k].1 := by
  unfold srt keysE at hs
  have := List.pairwise_iff_getElem.1 hs (k - 1) k (by simp; omega) (by simpa using hk) (by omega)
  simpa using this
theorem erd_nil {w : World} {a : Option Addr} {m cap : Nat} {L : List En} (hL : L = []) (hm : m = 0) (hc : cap ≤ maxLen) : ERd w (.slice a m cap) L := by
  subst hL hm
  exact ⟨a, cap, rfl, by simp, hc, .inl rfl⟩
/-- A part of entries that a slice reads. -/
theorem ERd.part {w : World} {b : Nat} {off n cap : Nat} {L : List En} (h : ERd w (.slice (some ⟨b, off, none⟩) n cap) L) (hb : b < w.heap.size) {f m : Nat} (hf : f + m ≤ L.length) : ERd w (.slice (some ⟨b, off + f * 7, none⟩) m (cap - f)) ((L.drop f).take m) := by
  obtain ⟨a, cap', he, h1, h2, h3⟩ := h
  simp only [Value.slice.injEq] at he
  obtain ⟨rfl, rfl, rfl⟩ := he
  have hl : ((L.drop f).take m).length = m := by simp; omega
  refine ⟨_, cap - f, by rw [hl], by rw [hl]; omega, by omega, ?_⟩
  rcases h3 with h3 | ⟨b', off', h4, _, h6⟩
  · left; rw [h3]; simp
  · simp only [Option.some.injEq, Addr.mk.injEq] at h4
    obtain ⟨rfl, rfl, _⟩ := h4
    refine .inr ⟨b, off + f * 7, rfl, hb, fun j hj => ?_⟩
    rw [hl] at hj
    obtain ⟨kv, g1, g2⟩ := h6 (f + j) (by omega)
    have e : ((L.drop f).take m)[j]'(by omega) = L[f + j] := by simp
    rw [e]
    refine ⟨kv, fun i hi => ?_, g2⟩
    rw [show off + f * 7 + j * 7 + i = off + (f + j) * 7 + i by omega]
    exact g1 i hi
theorem ERd.part' {w : World} {b : Nat} {off n cap : Nat} {L : List En} (h : ERd w (.slice (some ⟨b, off, none⟩) n cap) L) (hb : b < w.heap.size) {f m m' : Nat} (hf : f + m ≤ L.length) (hm : m' = m) : ERd w (.slice (some ⟨b, off + f * 7, none⟩) m' (cap - f)) ((L.drop f).take m) := by
  subst hm; exact h.part hb hf
set_option maxRecDepth 100000 in
set_option maxHeartbeats 2000000 in
theorem rises_walk (v : Value) (L : List En) (hv : Value) (hs : List UInt8) (kv : Value) (key : Ks) (most : Int) (w : World) (hE : EReads w v L) (hH : Reads w hv hs) (hK : Reads w kv key) (hm1 : -9223372036854775808 ≤ most) :
    Calls Try.prog 6 #[v, hv, kv, .int .i64 most] w fun e w' => e = .returned (.bool true) ∧ Below w.heap.size w w' := by
  have HE : Hid (EReads w v L) := hE
  have HH : Hid (Reads w hv hs) := hH
  have HK : Hid (Reads w kv key) := hK
  obtain ⟨a, cap, rfl, hcap, hm, hE3⟩ := hE
  obtain ⟨ah, ch, rfl, _⟩ := hH.form
  obtain ⟨ak, ck, rfl, hmk⟩ := hK.form
  unfold maxLen at hm hmk
  clear hE3 hH hK
  go_enter Try.func6, Try.ntmps6
  by_cases g1 : (100 : Int) < (L.length : Int)
  · go_wp2_with fail
    refine (alive_any _).mono ?_
    rintro e w4 ⟨rfl, hb4⟩
    go_wp2_with fail
    go_ret
    exact ⟨rfl, hb4⟩
  by_cases g2 : (1000 : Int) < (key.length : Int)
  · go_wp2_with fail
    refine (alive_any _).mono ?_
    rintro e w4 ⟨rfl, hb4⟩
    go_wp2_with fail
    go_ret
    exact ⟨rfl, hb4⟩
  go_wp2_with fail
  refine (put8_any _ L _ hs 0 (by decide) (by omega) _ HE.out HH.out).mono ?_
  rintro e w1 ⟨hb1, h1⟩
  have HB1 : Hid (Below w.heap.size w w1) := hb1
  clear hb1 HE HH
  rcases h1 with ⟨L0, rfl, hs1, _⟩ | ⟨rfl, _⟩
  · rw [rot_zero] at hs1
    obtain ⟨E, HEE⟩ := hid_ex (putL [] L)
    have hEl : E.length ≤ 100 := by
      have := putL_len L []
      rw [HEE.out]
      simp at this
      omega
    have HSr : Hid (srt E) := by rw [HEE.out]; exact putL_srt L
    rw [← HEE.out] at hs1
    have HS1 : Hid (SK w1 w.heap.size L0 E false) := hs1
    clear hs1 HEE
    go_wp2_with fail
    refine (all_any L0 _ false _ _ HS1.out).mono ?_
    rintro e w2 ⟨v2, xs2, rfl, ho2, he2, hb2⟩
    have HX2 : Hid (ERd w2 v2 E) := by rw [← he2]; exact ho2.rd
    have HS2 : Hid (SK w2 w.heap.size L0 E false) := HS1.out.below hb2
    have HB2 : Hid (Below w.heap.size w w2) := HB1.out.trans (hb2.mono HB1.out.size)
    clear hb2 ho2 he2 HS1 HB1
    go_wp2_with fail
    refine (seek_any L0 E false _ key most _ _ HS2.out (HK.out.below HB2.out)).mono ?_
    rintro e w3 ⟨v3, xs3, rfl, ho3, he3, hb3⟩
    have HX3 : Hid (ERd w3 v2 E) := HX2.out.below hb3
    have HY3 : Hid (ERd w3 v3 (skF E key most)) := by rw [← he3]; exact ho3.rd
    have HB3 : Hid (Below w.heap.size w w3) := HB2.out.trans (hb3.mono HB2.out.size)
    clear hb3 ho3 he3 HS2 HB2 HX2
    obtain ⟨p, HP⟩ := hid_ex (plK (keysE E) key)
    have hp : p ≤ E.length := by rw [HP.out]; exact pl_len E key
    obtain ⟨a2, c2, rfl, hc2, hm2, hX3⟩ := id HX3.out
    unfold maxLen at hm2
    have HX33 : Hid _ := hX3
    clear hX3
    obtain ⟨a3, c3, rfl, hc3, hm3, _⟩ := id HY3.out
    unfold maxLen at hm3
    obtain ⟨n3, HN3⟩ := hid_ex (skF E key most).length
    have HM3 : Hid (n3 = min most.toNat (E.length - p)) := by unfold Hid; rw [HN3.out, HP.out]; unfold skF; rw [List.length_take, List.length_drop]
    rw [← HN3.out] at hc3 HY3 ⊢
    go_wp2_with fail
    go_loopw [12, 13] (fun f i wr => ∃ k : Nat, k ≤ E.length ∧ i = .int .i64 (k : Int) ∧ f = .int .i64 ((frF E key k : Nat) : Int) ∧ Hid (Below w3.heap.size w3 wr)) (fun _ i _ => E.length - (intOf i).toNat)
    case atStart => exact ⟨0, by omega, rfl, by simp [frF], Below.refl _ _⟩
    case round =>
      obtain ⟨k, hk, rfl, rfl, HW⟩ := hrel
      obtain ⟨f, HF⟩ := hid_ex (frF E key k)
      rw [← HF.out]
      by_cases hlt : k < E.length
      · obtain ⟨bA, oA, rfl, hbA, hA⟩ := HX33.out.resolve_left (fun h => by rw [h] at hlt; simp at hlt)
        have HA : Hid _ := hA
        obtain ⟨kvk, hc, hR⟩ := hA k hlt
        clear hA
        obtain ⟨X, HX⟩ := hid_ex E[k]
        rw [← HX.out] at hR hc
        have HR : Hid (Reads w3 kvk X.1) := hR
        have q0 : wr.cell? ⟨bA, oA + k * 7, none⟩ = some kvk := (HW.out.cell (p := ⟨bA, _, none⟩) hbA).trans (hc 0 (by decide))
        obtain ⟨ax, cx, rfl, _⟩ := hR.form
        clear hR hc
        have HFS : Hid (frF E key (k + 1) = if ltK X.1 key then k + 1 else f) := by unfold Hid; rw [frF_succ HSr.out key hlt, ← HX.out, ← HF.out]
        have hq1 : ∀ n, (convert 29 9 (.slice ax X.1.length cx)).run Try.prog (wr.drewN n) = .ok (.string ⟨X.1.toArray⟩) (wr.drewN n) := fun n => reads_text (HR.out.below (below_drewN HW.out n))
        have hqk : ∀ (W : World), Below w3.heap.size w3 W → ∀ n, (convert 29 9 (.slice ak key.length ck)).run Try.prog (W.drewN n) = .ok (.string ⟨key.toArray⟩) (W.drewN n) := fun W hW n => reads_text (HK.out.below (HB3.out.trans ((below_drewN hW n).mono HB3.out.size)))
        have HQK : Hid _ := hqk
        clear hqk
        by_cases hk0 : 0 < k
        · obtain ⟨kvp, hcp, hRp⟩ := HA.out (k - 1) (by omega)
          obtain ⟨Y, HY⟩ := hid_ex (E[k - 1]'(by omega))
          rw [← HY.out] at hRp hcp
          have qp : wr.cell? ⟨bA, oA + (k - 1) * 7, none⟩ = some kvp := (HW.out.cell (p := ⟨bA, _, none⟩) hbA).trans (hcp 0 (by decide))
          obtain ⟨ay, cy, rfl, _⟩ := hRp.form
          have hq2 : ∀ n, (convert 29 9 (.slice ay Y.1.length cy)).run Try.prog (wr.drewN n) = .ok (.string ⟨Y.1.toArray⟩) (wr.drewN n) := fun n => reads_text (hRp.below (below_drewN HW.out n))
          have hYX : Op.bytesLess Y.1 X.1 = true := by rw [less_ltK, HY.out, HX.out]; exact decide_eq_true (srt_next HSr.out hk0 hlt)
          clear hcp hRp HY
          obtain ⟨k', rfl⟩ : ∃ k', k = k' + 1 := ⟨k - 1, by omega⟩
          rw [Nat.add_sub_cancel] at qp
          go_wp2_with fail
          go_quiet (fail)
          clear hq1 hq2 qp hYX
          obtain ⟨kk, hkk⟩ : ∃ kk, kk = k' + 1 := ⟨_, rfl⟩
          clear HX
          rw [← hkk] at hlt HFS hk q0 HF
          rw [← hkk]
          have HKK : Hid (kk = k' + 1) := hkk
          clear hkk
          obtain ⟨wB, HWQ⟩ := hid_ex (wr.drewN nq)
          have HW2 : Hid (Below w3.heap.size w3 wB) := by rw [HWQ.out]; exact below_drewN HW.out nq
          have q1 : wB.cell? ⟨bA, oA + kk * 7, none⟩ = some (.slice ax X.1.length cx) := by rw [HWQ.out]; exact q0
          have hq1 : ∀ n, (convert 29 9 (.slice ax X.1.length cx)).run Try.prog (wB.drewN n) = .ok (.string ⟨X.1.toArray⟩) (wB.drewN n) := fun n => reads_text (HR.out.below (below_drewN HW2.out n))
          have hq3 : ∀ n, (convert 29 9 (.slice ak key.length ck)).run Try.prog (wB.drewN n) = .ok (.string ⟨key.toArray⟩) (wB.drewN n) := fun n => HQK.out _ HW2.out n
          rw [← HWQ.out]
          clear HWQ q0 HQK
          by_cases hl : ltK X.1 key
          · have hle : Op.bytesLess X.1 key = true := by rw [less_ltK]; exact decide_eq_true hl
            rw [if_pos hl] at HFS
            go_wp2_with fail
            go_quiet (fail)
            clear hq1 hq3 q1
            have HW3 : Hid (Below w3.heap.size w3 (wB.drewN nq)) := below_drewN HW2.out nq
            go_wp2_with fail
            go_roundw
            case rel => exact ⟨kk + 1, by omega, by go_num, by rw [HFS.out]; go_num, HW3⟩
            case measure => have := HKK.out; simp [intOf]; omega
          · have hle : Op.bytesLess X.1 key = false := by rw [less_ltK]; exact decide_eq_false hl
            rw [if_neg hl] at HFS
            go_wp2_with fail
            go_quiet (fail)
            clear hq1 hq3 q1
            have HW3 : Hid (Below w3.heap.size w3 (wB.drewN nq)) := below_drewN HW2.out nq
            go_wp2_with fail
            go_roundw
            case rel => exact ⟨kk + 1, by omega, by go_num, by rw [HFS.out], HW3⟩
            case measure => have := HKK.out; simp [intOf]; omega
        · go_wp2_with fail
          go_quiet (fail)
          clear hq1
          obtain ⟨kk, hkk⟩ : ∃ kk, kk = k := ⟨_, rfl⟩
          rw [← hkk]
          clear HX
          rw [← hkk] at hlt HFS hk q0 HF
          have HKK : Hid (kk = k) := hkk
          clear hkk
          obtain ⟨wB, HWQ⟩ := hid_ex (wr.drewN nq)
          have HW2 : Hid (Below w3.heap.size w3 wB) := by rw [HWQ.out]; exact below_drewN HW.out nq
          have q1 : wB.cell? ⟨bA, oA + kk * 7, none⟩ = some (.slice ax X.1.length cx) := by rw [HWQ.out]; exact q0
          have hq1 : ∀ n, (convert 29 9 (.slice ax X.1.length cx)).run Try.prog (wB.drewN n) = .ok (.string ⟨X.1.toArray⟩) (wB.drewN n) := fun n => reads_text (HR.out.below (below_drewN HW2.out n))
          have hq3 : ∀ n, (convert 29 9 (.slice ak key.length ck)).run Try.prog (wB.drewN n) = .ok (.string ⟨key.toArray⟩) (wB.drewN n) := fun n => HQK.out _ HW2.out n
          rw [← HWQ.out]
          clear HWQ q0 HQK
          by_cases hl : ltK X.1 key
          · have hle : Op.bytesLess X.1 key = true := by rw [less_ltK]; exact decide_eq_true hl
            rw [if_pos hl] at HFS
            go_wp2_with fail
            go_quiet (fail)
            clear hq1 hq3 q1
            have HW3 : Hid (Below w3.heap.size w3 (wB.drewN nq)) := below_drewN HW2.out nq
            go_wp2_with fail
            go_roundw
            case rel => exact ⟨kk + 1, by omega, by go_num, by rw [HFS.out]; go_num, HW3⟩
            case measure => have := HKK.out; simp [intOf]; omega
          · have hle : Op.bytesLess X.1 key = false := by rw [less_ltK]; exact decide_eq_false hl
            rw [if_neg hl] at HFS
            go_wp2_with fail
            go_quiet (fail)
            clear hq1 hq3 q1
            have HW3 : Hid (Below w3.heap.size w3 (wB.drewN nq)) := below_drewN HW2.out nq
            go_wp2_with fail
            go_roundw
            case rel => exact ⟨kk + 1, by omega, by go_num, by rw [HFS.out], HW3⟩
            case measure => have := HKK.out; simp [intOf]; omega
      · have hkE : k = E.length := by omega
        rw [hkE, frF_all, ← HP.out] at HF
        have hfp : f = p := HF.out
        subst hfp
        by_cases c1 : most < (E.length : Int) - (f : Int)
        · by_cases c2' : most < 0
          · have hz : n3 = 0 := by have := HM3.out; omega
            subst hz
            go_wp2_with fail
            refine (alive_any _).mono ?_
            rintro e w4 ⟨rfl, hb4⟩
            have HX4 : Hid (ERd w4 (.slice a2 E.length c2) E) := (HX3.out.below HW.out).below hb4
            have HY4 : Hid (ERd w4 (.slice a3 0 c3) (skF E key most)) := (HY3.out.below HW.out).below hb4
            have HSz : Hid (w3.heap.size ≤ w4.heap.size) := Nat.le_trans HW.out.size hb4.size
            have HB4 : Hid (Below w.heap.size w w4) := (HB3.out.trans (HW.out.mono HB3.out.size)).trans (hb4.mono (HB3.out.trans (HW.out.mono HB3.out.size)).size)
            clear hb4 HW
            have HSK : Hid (skF E key most = (E.drop f).take 0) := by
              unfold Hid skF
              rw [← HP.out, HM3.out]
              apply List.ext_getElem
              · simp; try omega
              · intro j _ _; simp
            rw [HSK.out] at HY4
            rcases Nat.eq_zero_or_pos E.length with h0 | h0
            · have hf0 : f = 0 := by omega
              subst hf0
              rw [h0]
              rcases a2 with _ | ⟨b2, o2, sp2⟩
              · go_wp2_with fail
                refine (same_true _ _ _ _ HY4.out (erd_nil (by simp) (by omega) (by unfold maxLen; omega))).mono ?_
                rintro e w5 ⟨rfl, hb5⟩
                have HB5 : Hid (Below w.heap.size w w5) := HB4.out.trans (hb5.mono HB4.out.size)
                clear hb5
                go_wp2_with fail
                go_ret
                exact ⟨rfl, HB5.out⟩
              · go_wp2_with fail
                refine (same_true _ _ _ _ HY4.out (erd_nil (by simp) (by omega) (by unfold maxLen; omega))).mono ?_
                rintro e w5 ⟨rfl, hb5⟩
                have HB5 : Hid (Below w.heap.size w w5) := HB4.out.trans (hb5.mono HB4.out.size)
                clear hb5
                go_wp2_with fail
                go_ret
                exact ⟨rfl, HB5.out⟩
            · obtain ⟨bA, oA, rfl, hbA, _⟩ := HX33.out.resolve_left (fun h => by rw [h] at h0; simp at h0)
              go_wp2_with fail
              · refine (same_true _ _ _ _ HY4.out (erd_nil (by simp) (by omega) (by unfold maxLen; omega))).mono ?_
                rintro e w5 ⟨rfl, hb5⟩
                have HB5 : Hid (Below w.heap.size w w5) := HB4.out.trans (hb5.mono HB4.out.size)
                clear hb5
                go_wp2_with fail
                go_ret
                exact ⟨rfl, HB5.out⟩
              · refine (same_true _ _ _ _ HY4.out (HX4.out.part' (Nat.lt_of_lt_of_le hbA HSz.out) (by omega) (by omega))).mono ?_
                rintro e w5 ⟨rfl, hb5⟩
                have HB5 : Hid (Below w.heap.size w w5) := HB4.out.trans (hb5.mono HB4.out.size)
                clear hb5
                go_wp2_with fail
                go_ret
                exact ⟨rfl, HB5.out⟩
          · have hz : (n3 : Int) = most := by have := HM3.out; omega
            go_wp2_with fail
            refine (alive_any _).mono ?_
            rintro e w4 ⟨rfl, hb4⟩
            have HX4 : Hid (ERd w4 (.slice a2 E.length c2) E) := (HX3.out.below HW.out).below hb4
            have HY4 : Hid (ERd w4 (.slice a3 n3 c3) (skF E key most)) := (HY3.out.below HW.out).below hb4
            have HSz : Hid (w3.heap.size ≤ w4.heap.size) := Nat.le_trans HW.out.size hb4.size
            have HB4 : Hid (Below w.heap.size w w4) := (HB3.out.trans (HW.out.mono HB3.out.size)).trans (hb4.mono (HB3.out.trans (HW.out.mono HB3.out.size)).size)
            clear hb4 HW
            have HSK : Hid (skF E key most = (E.drop f).take n3) := by
              unfold Hid skF
              rw [← HP.out, HM3.out]
              apply List.ext_getElem
              · simp; try omega
              · intro j _ _; simp
            rw [HSK.out] at HY4
            rcases Nat.eq_zero_or_pos E.length with h0 | h0
            · have hf0 : f = 0 := by omega
              subst hf0
              rw [h0]
              rcases a2 with _ | ⟨b2, o2, sp2⟩
              · go_wp2_with fail
                refine (same_true _ _ _ _ HY4.out (erd_nil (by rw [List.length_eq_zero_iff.1 h0]; simp) (by omega) (by unfold maxLen; omega))).mono ?_
                rintro e w5 ⟨rfl, hb5⟩
                have HB5 : Hid (Below w.heap.size w w5) := HB4.out.trans (hb5.mono HB4.out.size)
                clear hb5
                go_wp2_with fail
                go_ret
                exact ⟨rfl, HB5.out⟩
              · go_wp2_with fail
                refine (same_true _ _ _ _ HY4.out (erd_nil (by rw [List.length_eq_zero_iff.1 h0]; simp) (by omega) (by unfold maxLen; omega))).mono ?_
                rintro e w5 ⟨rfl, hb5⟩
                have HB5 : Hid (Below w.heap.size w w5) := HB4.out.trans (hb5.mono HB4.out.size)
                clear hb5
                go_wp2_with fail
                go_ret
                exact ⟨rfl, HB5.out⟩
            · obtain ⟨bA, oA, rfl, hbA, _⟩ := HX33.out.resolve_left (fun h => by rw [h] at h0; simp at h0)
              go_wp2_with fail
              · refine (same_true _ _ _ _ HY4.out (HX4.out.part' (Nat.lt_of_lt_of_le hbA HSz.out) (show f + n3 ≤ E.length by omega) (by omega))).mono ?_
                rintro e w5 ⟨rfl, hb5⟩
                have HB5 : Hid (Below w.heap.size w w5) := HB4.out.trans (hb5.mono HB4.out.size)
                clear hb5
                go_wp2_with fail
                go_ret
                exact ⟨rfl, HB5.out⟩
        · have hz : (n3 : Int) = (E.length : Int) - (f : Int) := by have := HM3.out; omega
          go_wp2_with fail
          refine (alive_any _).mono ?_
          rintro e w4 ⟨rfl, hb4⟩
          have HX4 : Hid (ERd w4 (.slice a2 E.length c2) E) := (HX3.out.below HW.out).below hb4
          have HY4 : Hid (ERd w4 (.slice a3 n3 c3) (skF E key most)) := (HY3.out.below HW.out).below hb4
          have HSz : Hid (w3.heap.size ≤ w4.heap.size) := Nat.le_trans HW.out.size hb4.size
          have HB4 : Hid (Below w.heap.size w w4) := (HB3.out.trans (HW.out.mono HB3.out.size)).trans (hb4.mono (HB3.out.trans (HW.out.mono HB3.out.size)).size)
          clear hb4 HW
          have HSK : Hid (skF E key most = (E.drop f).take n3) := by
            unfold Hid skF
            rw [← HP.out, HM3.out]
            apply List.ext_getElem
            · simp; try omega
            · intro j _ _; simp
          rw [HSK.out] at HY4
          rcases Nat.eq_zero_or_pos E.length with h0 | h0
          · have hf0 : f = 0 := by omega
            subst hf0
            rw [h0]
            rcases a2 with _ | ⟨b2, o2, sp2⟩
            · go_wp2_with fail
              refine (same_true _ _ _ _ HY4.out (erd_nil (by rw [List.length_eq_zero_iff.1 h0]; simp) (by omega) (by unfold maxLen; omega))).mono ?_
              rintro e w5 ⟨rfl, hb5⟩
              have HB5 : Hid (Below w.heap.size w w5) := HB4.out.trans (hb5.mono HB4.out.size)
              clear hb5
              go_wp2_with fail
              go_ret
              exact ⟨rfl, HB5.out⟩
            · go_wp2_with fail
              refine (same_true _ _ _ _ HY4.out (erd_nil (by rw [List.length_eq_zero_iff.1 h0]; simp) (by omega) (by unfold maxLen; omega))).mono ?_
              rintro e w5 ⟨rfl, hb5⟩
              have HB5 : Hid (Below w.heap.size w w5) := HB4.out.trans (hb5.mono HB4.out.size)
              clear hb5
              go_wp2_with fail
              go_ret
              exact ⟨rfl, HB5.out⟩
          · obtain ⟨bA, oA, rfl, hbA, _⟩ := HX33.out.resolve_left (fun h => by rw [h] at h0; simp at h0)
            go_wp2_with fail
            · refine (same_true _ _ _ _ HY4.out (erd_nil (by rw [show n3 = 0 by omega]; simp) (by omega) (by unfold maxLen; omega))).mono ?_
              rintro e w5 ⟨rfl, hb5⟩
              have HB5 : Hid (Below w.heap.size w w5) := HB4.out.trans (hb5.mono HB4.out.size)
              clear hb5
              go_wp2_with fail
              go_ret
              exact ⟨rfl, HB5.out⟩
            · refine (same_true _ _ _ _ HY4.out (HX4.out.part' (Nat.lt_of_lt_of_le hbA HSz.out) (show f + n3 ≤ E.length by omega) (by omega))).mono ?_
              rintro e w5 ⟨rfl, hb5⟩
              have HB5 : Hid (Below w.heap.size w w5) := HB4.out.trans (hb5.mono HB4.out.size)
              clear hb5
              go_wp2_with fail
              go_ret
              exact ⟨rfl, HB5.out⟩
  · go_wp2_with fail
    refine (alive_any _).mono ?_
    rintro e w4 ⟨rfl, hb4⟩
    have HB4 : Hid (Below w.heap.size w w4) := HB1.out.trans (hb4.mono HB1.out.size)
    clear hb4
    go_wp2_with fail
    go_ret
    exact ⟨rfl, HB4.out⟩
end Go.Proofs.Ytagaakbbfohbpaa
