/- TR4, joined. -/
import Derived.Test.YtlpjdfgknmfmnaaTE36
import Derived.Test.YtlpjdfgknmfmnaaTE37
import Derived.Test.YtlpjdfgknmfmnaaTE38
import Derived.Test.YtlpjdfgknmfmnaaTE40
/- TableWrites' walk. -/
namespace Go.Proofs.Ytlpjdfgknmfmnaa
open Go.RowKit

set_option maxRecDepth 100000 in
set_option maxHeartbeats 4000000 in
theorem writes10_walk (v : Value) (L : List Et) (w : World) (h : TRd w v L) : Calls Try.prog 3 #[v] w fun e w' => e = .returned (.bool true) ∧ Below w.heap.size w w' := by
  obtain ⟨a, cap, rfl⟩ : ∃ a cap, v = .slice a L.length cap := by obtain ⟨a, cap, h1, _⟩ := h; exact ⟨a, cap, h1⟩
  have HR : Hid (TRd w (.slice a L.length cap) L) := h
  have HGt : Hid (Calls Try.prog 5 #[.slice a L.length cap] w _) := great10_any _ L w h
  have hLl : grB L = false → tmF L = 0 → L.length ≤ 3000 := fun hg ht => by
    have h4 := (tm_ok ht).n
    unfold grB at hg
    simp only [Bool.or_eq_false_iff, Bool.and_eq_false_iff, decide_eq_false_iff_not] at hg
    omega
  have HLl : Hid (grB L = false → tmF L = 0 → L.length ≤ 3000) := hLl
  obtain ⟨gr, HGr⟩ := hid_ex (grB L)
  rw [← HGr.out] at HGt HLl
  obtain ⟨N, HN⟩ : ∃ n, Hid (L.length = n) := ⟨_, rfl⟩
  rw [HN.out] at HR HGt ⊢
  clear h hLl
  go_enter Try.func3, Try.ntmps3
  go_wp2_with fail
  refine HGt.out.mono ?_
  clear HGt
  rintro e w0 ⟨rfl, rfl⟩
  cases gr with
  | true =>
    go_wp2_with fail
    refine (alive10_any _).mono ?_
    rintro e w1 ⟨rfl, hb1⟩
    go_wp2_with fail
    go_ret
    exact ⟨rfl, hb1⟩
  | false =>
    have HL3 : Hid (tmF L = 0 → L.length ≤ 3000) := HLl.out rfl
    have HW : Hid (Calls Try.prog 7 #[.slice a N cap] w0 _) := twrite_all _ L w0 HR.out
    obtain ⟨E, HE⟩ := hid_ex (twE L)
    obtain ⟨B, HB⟩ := hid_ex (twB L)
    rw [← HE.out, ← HB.out] at HW
    clear HLl
    go_wp2_with fail
    refine HW.out.mono ?_
    clear HW
    rintro e w1 ⟨v1, rfl, ho1, hb1⟩
    have HB1 : Hid (Below w0.heap.size w0 w1) := hb1
    have HR1 : Hid (Reads w1 v1 B) := ho1.reads
    have HV : Hid (Calls Try.prog 8 #[.slice a N cap] w1 _) := refWr10_any _ L w1 (HR.out.below hb1) HL3.out
    rw [← HE.out, ← HB.out] at HV
    obtain ⟨a1, c1, rfl, _⟩ := ho1.form
    obtain ⟨BL, HBL⟩ : ∃ n, Hid (B.length = n) := ⟨_, rfl⟩
    rw [HBL.out] at HR1
    rw [HBL.out]
    clear ho1 hb1
    go_wp2_with fail
    refine HV.out.mono ?_
    clear HV
    rintro e w2 ⟨v2, rfl, ho2, hb2⟩
    have HB2 : Hid (Below w0.heap.size w0 w2) := HB1.out.trans (hb2.mono HB1.out.size)
    have HR12 : Hid (Reads w2 (.slice a1 BL c1) B) := HR1.out.below hb2
    have HR2 : Hid (Reads w2 v2 B) := ho2.reads
    obtain ⟨a2, c2, rfl, _⟩ := ho2.form
    rw [HBL.out] at HR2
    rw [HBL.out]
    clear ho2 hb2 HB1 HR1
    go_wp2_with fail
    refine (alive10_any w2).mono ?_
    rintro e w3 ⟨rfl, hb3⟩
    have HB3 : Hid (Below w0.heap.size w0 w3) := HB2.out.trans (hb3.mono HB2.out.size)
    have hq1 := reads_text (HR12.out.below hb3)
    have hq2 := reads_text (HR2.out.below hb3)
    clear hb3
    go_wp2_with fail
    go_ret
    exact ⟨rfl, HB3.out⟩
end Go.Proofs.Ytlpjdfgknmfmnaa
