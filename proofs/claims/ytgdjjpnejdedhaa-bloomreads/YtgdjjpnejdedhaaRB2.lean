/- The contract of the reference's Place. -/
import Derived.Test.YtgdjjpnejdedhaaRB1
import Derived.Test.YtgdjjpnejdedhaaV7
import Derived.Deep.QuietTactic
import Derived.BigQuiet
namespace Go.Proofs.Ytgdjjpnejdedhaa
open Go.RowKit

theorem ref_fin (q i st n : Nat) (hn : 0 < n) (hn2 : n ≤ 65536) : wrap64 (((q : Int) + (i : Int) * (st : Int)) % 4294967296 % (n : Int)) = (((q + i * st) % 4294967296 % n : Nat) : Int) := by
  have e : ((q : Int) + (i : Int) * (st : Int)) = ((q + i * st : Nat) : Int) := by rw [Int.natCast_add, Int.natCast_mul]
  rw [e]
  generalize q + i * st = m
  have e2 : ((m : Int) % 4294967296 % (n : Int)) = ((m % 4294967296 % n : Nat) : Int) := by rw [Int.natCast_emod, Int.natCast_emod]; rfl
  rw [e2]
  have := Nat.mod_lt (m % 4294967296) hn
  generalize m % 4294967296 % n = k at *
  unfold wrap64
  omega
set_option maxRecDepth 100000 in
set_option maxHeartbeats 1000000 in
theorem place_any (v kv : Value) (h : Nat) (bs : List Bool) (key : List UInt8) (hkl : key.length ≤ 100000) (i : Nat) (hi8 : i < 8) (w : World) (base : Nat) (hF : RF w base v h bs) (hR : Reads w kv key) :
    Calls Try.prog 26 #[v, kv, .int .i64 (i : Int)] w fun e W' => e = .returned (.int .i64 ((pla key i % bs.length : Nat) : Int)) ∧ Below w.heap.size w W' := by
  obtain ⟨B, g, cap, rfl, hB, hc, hO, hBg, hh1, hh8, hD0, hD1⟩ := id hF
  have c0 := cell_of hc 0 (by simp)
  simp at c0
  have hBlt := (Array.getElem?_eq_some_iff.1 hc).1
  have HC0 : Hid (w.cell? ⟨B, 0, none⟩ = some (.slice (some ⟨g, 0, none⟩) bs.length cap)) := c0
  have HR : Hid (Reads w kv key) := hR
  obtain ⟨ak, ck, rfl, _⟩ := hR.form
  clear hF hc hO c0
  go_enter Try.func26, Try.ntmps26
  go_wp2_with (at_builtin; refine wpList_app rfl _ _ rfl w.heap.size _ _ [] key key rfl rfl rfl (Own.nil _ _) hR (by simp; omega) (Nat.le_refl _) ?_)
  intro v2 w2 HO2 hb2
  have HB2 : Hid (Below w.heap.size w w2) := hb2.out
  have hsz2 := HB2.out.size
  clear hb2 hR
  go_wp2_with (at_builtin; refine wpList_app1 rfl _ _ rfl w.heap.size v2 key 1 (key ++ [1]) rfl rfl rfl rfl HO2 (by omega) hsz2 ?_)
  intro v3 w3 HO3 hb3
  have HB3 : Hid (Below w.heap.size w w3) := HB2.out.trans hb3.out
  have HR3 : Hid (Reads w3 v3 (key ++ [1])) := HO3.reads
  have HK3 : Hid (Reads w3 (.slice ak key.length ck) key) := HR.out.below HB3.out
  clear hb3 HO2 HO3 HB2 hsz2
  go_wp2_with fail
  refine (refSum_any _ key _ HK3.out).mono ?_
  rintro e w4 ⟨rfl, hw4⟩
  subst w4
  go_wp2_with fail
  refine (refSum_any _ _ _ HR3.out).mono ?_
  rintro e w4 ⟨rfl, hw4⟩
  subst w4
  obtain ⟨a3, c3, hv3, _⟩ := HR3.out.form
  subst hv3
  obtain ⟨m, Hm⟩ := hid_ex (mor 0 (key ++ [1]))
  rw [← Hm.out]
  have hm : m < 4294967296 := by rw [Hm.out]; exact mor_lt _ _
  obtain ⟨q, Hq⟩ := hid_ex (mor 0 key)
  rw [← Hq.out]
  have hq : q < 4294967296 := by rw [Hq.out]; exact mor_lt _ _
  have hcB := (HB3.out.cell (p := ⟨B, 0, none⟩) hBlt).trans HC0.out
  have hst := ste_lt key
  have hz : ¬ ((bs.length : Nat) : Int) = 0 := by omega
  have HRS : Hid ((if m % 2 = 0 then m + 1 else m) = ste key) := by rw [Hm.out]; exact ref_step key
  clear HR3 HK3
  rcases Nat.mod_two_eq_zero_or_one m with h2 | h2
  · have e1 : ste key = m + 1 := by rw [← HRS.out, if_pos h2]
    have j2 : (m : Int) % 2 = 0 := by omega
    have HE : Hid (pla key i = (q + i * (m + 1)) % 4294967296) := by unfold Hid pla; rw [e1, Hq.out]
    clear e1 HRS
    go_wp2_with fail
    go_ret
    refine ⟨?_, HB3.out⟩
    have := ref_fin q i (m + 1) bs.length (by omega) hD1
    rw [HE.out, ← this, Int.natCast_add]; rfl
  · have e1 : ste key = m := by rw [← HRS.out, if_neg (by omega)]
    have j2 : (m : Int) % 2 = 1 := by omega
    have HE : Hid (pla key i = (q + i * m) % 4294967296) := by unfold Hid pla; rw [e1, Hq.out]
    clear e1 HRS
    go_wp2_with fail
    go_ret
    refine ⟨?_, HB3.out⟩
    have := ref_fin q i m bs.length (by omega) hD1
    rw [HE.out, ← this]; rfl
end Go.Proofs.Ytgdjjpnejdedhaa
