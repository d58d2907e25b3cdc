/- The walk of BloomBack. -/
import Derived.Test.YtgdjjpnejdedhaaB9
namespace Go.Proofs.Ytgdjjpnejdedhaa
open Go.RowKit

theorem head_tail {l : List UInt8} (h : rdOk l) : UInt8.ofNat (l.getD 0 0).toNat :: l.drop 1 = l := by
  obtain ⟨h1, _⟩ := h
  cases l with
  | nil => simp at h1
  | cons x l => simp
set_option maxRecDepth 100000 in
set_option maxHeartbeats 1000000 in
theorem back_walk (v : Value) (l : List UInt8) (d h : Int) (kv : Value) (key : List UInt8) (w : World) (hR : Reads w v l) (hK : Reads w kv key) :
    Calls Try.prog 8 #[v, .int .i64 d, .int .i64 h, kv] w fun e w' => e = .returned (.bool true) ∧ Below w.heap.size w w' := by
  have HR : Hid (Reads w v l) := hR
  have HK : Hid (Reads w kv key) := hK
  obtain ⟨a, cap, rfl, _⟩ := hR.form
  obtain ⟨ak, capk, rfl, _⟩ := hK.form
  clear hR hK
  by_cases g : (9000 : Int) < (l.length : Int)
  · go_enter Try.func8, Try.ntmps8
    go_wp2_with fail
    refine (alive_any _).mono ?_
    rintro e w1 ⟨rfl, hb1⟩
    go_wp2_with fail
    go_ret
    exact ⟨rfl, hb1⟩
  by_cases g2 : (300 : Int) < (key.length : Int)
  · go_enter Try.func8, Try.ntmps8
    go_wp2_with fail
    refine (alive_any _).mono ?_
    rintro e w1 ⟨rfl, hb1⟩
    go_wp2_with fail
    go_ret
    exact ⟨rfl, hb1⟩
  go_enter Try.func8, Try.ntmps8
  go_wp2_with fail
  refine (read_any _ l _ HR.out).mono ?_
  rintro e w1 (⟨v1, rfl, hok, hf1, hb1⟩ | ⟨rfl, hno, hw1⟩)
  · obtain ⟨B, rfl⟩ := hf1.ptr
    have HF1 : Hid (Fil w1 w.heap.size (.pointer (some ⟨B, 0, none⟩)) (l.getD 0 0).toNat (l.drop 1)) := hf1
    have HB1 : Hid (Below w.heap.size w w1) := hb1
    have HE : Hid _ := head_tail hok
    clear hf1 hb1 hok
    go_wp2_with fail
    refine (write_any _ _ _ _ _ HF1.out).mono ?_
    rintro e w2 ⟨v2, rfl, ho2, hb2⟩
    rw [HE.out] at ho2
    obtain ⟨a2, cap2, rfl, _⟩ := ho2.form
    have HB2 : Hid (Below w.heap.size w w2) := HB1.out.trans (hb2.mono HB1.out.size)
    have HR2 : Hid (Reads w2 (.slice a l.length cap) l) := HR.out.below HB2.out
    have hcv := reads_text HR2.out
    have hcv2 := reads_text ho2.reads
    clear hb2 HB1 HF1 HE ho2
    go_wp2_with fail
    refine (new_any d h _).mono ?_
    rintro e w3 (⟨v3, rfl, hok3, hf3, hb3⟩ | ⟨rfl, hno3, hw3⟩)
    · obtain ⟨B3, rfl⟩ := hf3.ptr
      have HB3 : Hid (Below w.heap.size w w3) := HB2.out.trans (hb3.mono HB2.out.size)
      have HF3 : Hid (Fil w3 w2.heap.size (.pointer (some ⟨B3, 0, none⟩)) h.toNat (List.replicate (d / 8).toNat 0)) := hf3
      clear hb3 hf3 hok3
      go_wp2_with fail
      refine (alive_any _).mono ?_
      rintro e w4 ⟨rfl, hb4⟩
      have HB4 : Hid (Below w.heap.size w w4) := HB3.out.trans (hb4.mono HB3.out.size)
      have HF4 : Hid (Fil w4 w2.heap.size (.pointer (some ⟨B3, 0, none⟩)) h.toNat (List.replicate (d / 8).toNat 0)) := HF3.out.below hb4
      clear hb4 HB3 HF3
      go_wp2_with fail
      refine (may_any _ _ _ _ key _ _ HF4.out (HK.out.below HB4.out)).mono ?_
      rintro e w5 ⟨rfl, hb5⟩
      rw [my_zero _ _ _ _ HF4.out.facts.1]
      have HB5 : Hid (Below w.heap.size w w5) := HB4.out.trans (hb5.mono HB4.out.size)
      clear hb5 HB4 HF4
      go_wp2_with fail
      go_ret
      exact ⟨rfl, HB5.out⟩
    · subst w3
      go_wp2_with fail
      refine (alive_any _).mono ?_
      rintro e w4 ⟨rfl, hb4⟩
      have HB4 : Hid (Below w.heap.size w w4) := HB2.out.trans (hb4.mono HB2.out.size)
      clear hb4
      go_wp2_with fail
      go_ret
      exact ⟨rfl, HB4.out⟩
  · subst w1
    go_wp2_with fail
    refine (new_any d h _).mono ?_
    rintro e w3 (⟨v3, rfl, hok3, hf3, hb3⟩ | ⟨rfl, hno3, hw3⟩)
    · obtain ⟨B3, rfl⟩ := hf3.ptr
      have HB3 : Hid (Below w.heap.size w w3) := (Below.refl w.heap.size w).trans (hb3.mono (Below.refl w.heap.size w).size)
      have HF3 : Hid (Fil w3 w.heap.size (.pointer (some ⟨B3, 0, none⟩)) h.toNat (List.replicate (d / 8).toNat 0)) := hf3
      clear hb3 hf3 hok3
      go_wp2_with fail
      refine (alive_any _).mono ?_
      rintro e w4 ⟨rfl, hb4⟩
      have HB4 : Hid (Below w.heap.size w w4) := HB3.out.trans (hb4.mono HB3.out.size)
      have HF4 : Hid (Fil w4 w.heap.size (.pointer (some ⟨B3, 0, none⟩)) h.toNat (List.replicate (d / 8).toNat 0)) := HF3.out.below hb4
      clear hb4 HB3 HF3
      go_wp2_with fail
      refine (may_any _ _ _ _ key _ _ HF4.out (HK.out.below HB4.out)).mono ?_
      rintro e w5 ⟨rfl, hb5⟩
      rw [my_zero _ _ _ _ HF4.out.facts.1]
      have HB5 : Hid (Below w.heap.size w w5) := HB4.out.trans (hb5.mono HB4.out.size)
      clear hb5 HB4 HF4
      go_wp2_with fail
      go_ret
      exact ⟨rfl, HB5.out⟩
    · subst w3
      go_wp2_with fail
      refine (alive_any _).mono ?_
      rintro e w4 ⟨rfl, hb4⟩
      have HB4 : Hid (Below w.heap.size w w4) := (Below.refl w.heap.size w).trans (hb4.mono (Below.refl w.heap.size w).size)
      clear hb4
      go_wp2_with fail
      go_ret
      exact ⟨rfl, HB4.out⟩
end Go.Proofs.Ytgdjjpnejdedhaa
