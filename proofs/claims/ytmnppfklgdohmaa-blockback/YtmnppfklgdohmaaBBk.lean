/- The walk of BlockBack. -/
import Derived.Test.YtmnppfklgdohmaaBK12
import Derived.Test.YtmnppfklgdohmaaBSk
namespace Go.Proofs.Ytmnppfklgdohmaa
open Go.RowKit

set_option maxRecDepth 100000 in
set_option maxHeartbeats 4000000 in
theorem back_walk (v : Value) (l : List Pr) (bv : Value) (b : List UInt8) (w : World) (hP : PReads w v l) (hB : Reads w bv b) :
    Calls Try.prog 5 #[v, bv] w fun e w' => e = .returned (.bool true) ∧ Below w.heap.size w w' := by
  have HP : Hid (PReads w v l) := hP
  have HBb : Hid (Reads w bv b) := hB
  obtain ⟨a, cap, rfl, hcap, hm, _⟩ := hP
  obtain ⟨ab, cb, rfl, hmb⟩ := hB.form
  unfold maxLen at hm hmb
  clear hB
  go_enter Try.func5, Try.ntmps5
  go_wp2_with fail
  refine (great_any _ l _ HP.out).mono ?_
  rintro e w1 ⟨g, rfl, hg, hb1⟩
  have HB1 : Hid (Below w.heap.size w w1) := hb1
  have HG : Hid (g = false → ¬ (60 < l.length ∧ l.length ≤ 4096)) := hg
  clear hb1 hg
  cases g
  · have HG2 : Hid (¬ (60 < l.length ∧ l.length ≤ 4096)) := HG.out rfl
    clear HG
    by_cases g2 : (3000 : Int) < (b.length : Int)
    · go_wp2_with fail
      refine (alive_any _).mono ?_
      rintro e w9 ⟨rfl, hb9⟩
      have HB9 : Hid (Below w.heap.size w w9) := HB1.out.trans (hb9.mono HB1.out.size)
      clear hb9
      go_wp2_with fail
      go_ret
      exact ⟨rfl, HB9.out⟩
    go_wp2_with fail
    refine (write_any _ l _ (HP.out.below HB1.out)).mono ?_
    rintro e w2 ⟨v2, rfl, ho2, hb2⟩
    have HB2 : Hid (Below w.heap.size w w2) := HB1.out.trans (hb2.mono HB1.out.size)
    have HO2 : Hid (Reads w2 v2 (wrB l)) := ho2.reads
    clear hb2 ho2 HB1
    by_cases h0 : mbF l = 0
    · rw [h0]
      have hll : l.length ≤ 100000 := by have := (mb_zero.1 h0).1; omega
      go_wp2_with fail
      refine (read_any _ (wrB l) (wrB_len HG2.out h0) _ HO2.out).mono ?_
      rintro e w3 ⟨hb3, he⟩
      rw [rd_wr h0] at he
      obtain ⟨u3, xs3, rfl, hmap3, hO3⟩ := he
      have HB3 : Hid (Below w.heap.size w w3) := HB2.out.trans (hb3.mono HB2.out.size)
      have HP3 : Hid (PReads w3 u3 l) := by rw [← hmap3]; exact hO3.reads
      clear hb3 hO3 hmap3 HO2 HB2 h0 HG2
      obtain ⟨au3, cu3, hu3, _⟩ := id HP3.out
      subst hu3
      go_wp2_with fail
      refine (as_any _ l hll _ (HP.out.below HB3.out)).mono ?_
      rintro e w4 ⟨u4, rfl, hp4, hb4⟩
      have HP4 : Hid (PReads w4 u4 l) := hp4
      have HP3' : Hid (PReads w4 (.slice au3 l.length cu3) l) := HP3.out.below hb4
      have HB4 : Hid (Below w.heap.size w w4) := HB3.out.trans (hb4.mono HB3.out.size)
      clear hb4 hp4 HP3 HB3
      obtain ⟨au4, cu4, hu4, _⟩ := id HP4.out
      subst hu4
      go_wp2_with fail
      refine (same_true _ _ l _ HP3'.out HP4.out).mono ?_
      rintro e w5 ⟨rfl, hb5⟩
      have HB5 : Hid (Below w.heap.size w w5) := HB4.out.trans (hb5.mono HB4.out.size)
      clear hb5 HP4 HP3' HB4
      go_wp2_with fail
      refine (read_any _ b (by omega) _ (HBb.out.below HB5.out)).mono ?_
      rintro e w6 ⟨hb6, he⟩
      have HB6 : Hid (Below w.heap.size w w6) := HB5.out.trans (hb6.mono HB5.out.size)
      clear hb6
      cases hrd : rdB b with
      | none =>
        rw [hrd] at he
        dsimp only at he
        subst he
        clear hrd
        go_wp2_with fail
        refine (write_any _ [] _ ⟨none, 0, rfl, by simp, by simp, .inl rfl⟩).mono ?_
        rintro e w7 ⟨v7, rfl, _, hb7⟩
        have HB7 : Hid (Below w.heap.size w w7) := HB6.out.trans (hb7.mono HB6.out.size)
        clear hb7
        go_wp2_with fail
        refine (alive_any _).mono ?_
        rintro e w9 ⟨rfl, hb9⟩
        have HB9 : Hid (Below w.heap.size w w9) := HB7.out.trans (hb9.mono HB7.out.size)
        clear hb9
        go_wp2_with fail
        go_ret
        exact ⟨rfl, HB9.out⟩
      | some l' =>
        rw [hrd] at he
        obtain ⟨u, xs, rfl, hmap, hO⟩ := he
        have HP6 : Hid (PReads w6 u l') := by rw [← hmap]; exact hO.reads
        obtain ⟨hm0, hw0⟩ := rdB_back hrd
        have HWB : Hid (wrB l' = b) := by unfold Hid wrB; rw [if_pos hm0]; exact hw0
        have HM0 : Hid (mbF l' = 0) := hm0
        clear hO hmap hrd hm0 hw0
        obtain ⟨au, cu, hu, _⟩ := id HP6.out
        subst hu
        go_wp2_with fail
        refine (write_any _ l' _ HP6.out).mono ?_
        rintro e w7 ⟨v7, rfl, ho7, hb7⟩
        have HB7 : Hid (Below w.heap.size w w7) := HB6.out.trans (hb7.mono HB6.out.size)
        rw [HWB.out] at ho7
        rw [HM0.out]
        have HR7 : Hid (Reads w7 v7 b) := ho7.reads
        clear hb7 ho7
        obtain ⟨a7, c7, rfl, _⟩ := HR7.out.form
        go_wp2_with fail
        refine (alive_any _).mono ?_
        rintro e w9 ⟨rfl, hb9⟩
        have HB9 : Hid (Below w.heap.size w w9) := HB7.out.trans (hb9.mono HB7.out.size)
        have hq1 := reads_text (HR7.out.below hb9)
        have hq2 := reads_text (HBb.out.below HB9.out)
        clear hb9
        go_wp2_with fail
        go_ret
        exact ⟨rfl, HB9.out⟩
    · go_wp2_with fail
      refine (read_any _ b (by omega) _ (HBb.out.below HB2.out)).mono ?_
      rintro e w6 ⟨hb6, he⟩
      have HB6 : Hid (Below w.heap.size w w6) := HB2.out.trans (hb6.mono HB2.out.size)
      clear hb6
      cases hrd : rdB b with
      | none =>
        rw [hrd] at he
        dsimp only at he
        subst he
        clear hrd
        go_wp2_with fail
        refine (write_any _ [] _ ⟨none, 0, rfl, by simp, by simp, .inl rfl⟩).mono ?_
        rintro e w7 ⟨v7, rfl, _, hb7⟩
        have HB7 : Hid (Below w.heap.size w w7) := HB6.out.trans (hb7.mono HB6.out.size)
        clear hb7
        go_wp2_with fail
        refine (alive_any _).mono ?_
        rintro e w9 ⟨rfl, hb9⟩
        have HB9 : Hid (Below w.heap.size w w9) := HB7.out.trans (hb9.mono HB7.out.size)
        clear hb9
        go_wp2_with fail
        go_ret
        exact ⟨rfl, HB9.out⟩
      | some l' =>
        rw [hrd] at he
        obtain ⟨u, xs, rfl, hmap, hO⟩ := he
        have HP6 : Hid (PReads w6 u l') := by rw [← hmap]; exact hO.reads
        obtain ⟨hm0, hw0⟩ := rdB_back hrd
        have HWB : Hid (wrB l' = b) := by unfold Hid wrB; rw [if_pos hm0]; exact hw0
        have HM0 : Hid (mbF l' = 0) := hm0
        clear hO hmap hrd hm0 hw0
        obtain ⟨au, cu, hu, _⟩ := id HP6.out
        subst hu
        go_wp2_with fail
        refine (write_any _ l' _ HP6.out).mono ?_
        rintro e w7 ⟨v7, rfl, ho7, hb7⟩
        have HB7 : Hid (Below w.heap.size w w7) := HB6.out.trans (hb7.mono HB6.out.size)
        rw [HWB.out] at ho7
        rw [HM0.out]
        have HR7 : Hid (Reads w7 v7 b) := ho7.reads
        clear hb7 ho7
        obtain ⟨a7, c7, rfl, _⟩ := HR7.out.form
        go_wp2_with fail
        refine (alive_any _).mono ?_
        rintro e w9 ⟨rfl, hb9⟩
        have HB9 : Hid (Below w.heap.size w w9) := HB7.out.trans (hb9.mono HB7.out.size)
        have hq1 := reads_text (HR7.out.below hb9)
        have hq2 := reads_text (HBb.out.below HB9.out)
        clear hb9
        go_wp2_with fail
        go_ret
        exact ⟨rfl, HB9.out⟩
  · go_wp2_with fail
    refine (alive_any _).mono ?_
    rintro e w9 ⟨rfl, hb9⟩
    have HB9 : Hid (Below w.heap.size w w9) := HB1.out.trans (hb9.mono HB1.out.size)
    clear hb9
    go_wp2_with fail
    go_ret
    exact ⟨rfl, HB9.out⟩
end Go.Proofs.Ytmnppfklgdohmaa
