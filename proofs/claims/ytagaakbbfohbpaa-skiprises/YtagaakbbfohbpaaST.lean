/- The walk of SkipTowers. -/
import Derived.Test.YtagaakbbfohbpaaS18
import Derived.Test.YtagaakbbfohbpaaS19
import Derived.Laws.BitsLemmas
namespace Go.Proofs.Ytagaakbbfohbpaa
open Go.RowKit

theorem EReads.ok {w : World} {v : Value} {L : List En} (h : EReads w v L) : ∀ x ∈ L, AgOk x.2 := by
  obtain ⟨a, cap, rfl, _, _, h3⟩ := h
  intro x hx
  rcases h3 with rfl | ⟨b, off, _, _, h6⟩
  · cases hx
  · obtain ⟨j, hj, rfl⟩ := List.getElem_of_mem hx
    obtain ⟨_, _, _, g⟩ := h6 j hj
    exact g
theorem i64_and1023 (n : Int) : bits .and .i64 n 1023 = n % 1024 := by
  have h127 : (BitVec.ofInt 64 1023).toNat = 2 ^ 10 - 1 := by decide
  have key : (BitVec.ofInt 64 n &&& BitVec.ofInt 64 1023).toNat = (n % ((2 ^ 64 : Nat) : Int)).toNat % 2 ^ 10 := by
    rw [BitVec.toNat_and, BitVec.toNat_ofInt, h127, Nat.and_two_pow_sub_one_eq_mod]
  show IntKind.i64.wrap ((BitVec.ofInt 64 n &&& BitVec.ofInt 64 1023).toNat : Nat) = n % 1024
  rw [key, IntKind.wrap_i64]
  omega
set_option maxRecDepth 100000 in
set_option maxHeartbeats 2000000 in
theorem towers_walk (v : Value) (L : List En) (hv : Value) (hs : List UInt8) (bv : Value) (bs : List UInt8) (t : Int) (w : World) (hE : EReads w v L) (hH : Reads w hv hs) (hB : Reads w bv bs) :
    Calls Try.prog 5 #[v, hv, bv, .int .i64 t] w fun e w' => e = .returned (.bool true) ∧ Below w.heap.size w w' := by
  have HE : Hid (EReads w v L) := hE
  have HH : Hid (Reads w hv hs) := hH
  have HBs : Hid (Reads w bv bs) := hB
  have HOk : Hid (∀ x ∈ L, AgOk x.2) := hE.ok
  obtain ⟨a, cap, rfl, hcap, hm, hE3⟩ := hE
  obtain ⟨ah, ch, rfl, _⟩ := hH.form
  obtain ⟨ao, co, rfl, _⟩ := hB.form
  unfold maxLen at hm
  clear hE3 hH hB
  obtain ⟨m, hm1, hm2⟩ : ∃ m : Nat, bits .and .i64 t 1023 = (m : Int) ∧ m ≤ 1023 := ⟨(t % 1024).toNat, by rw [i64_and1023]; omega, by omega⟩
  go_enter Try.func5, Try.ntmps5
  by_cases g1 : (100 : Int) < (L.length : Int)
  · go_wp2_with fail
    refine (alive_any _).mono ?_
    rintro e w4 ⟨rfl, hb4⟩
    go_wp2_with fail
    go_ret
    exact ⟨rfl, hb4⟩
  go_wp2_with fail
  refine (put8_any _ L _ hs 0 (by decide) (by omega) _ HE.out HH.out).mono ?_
  rintro e w1 ⟨hb1, h1⟩
  have HB1 : Hid (Below w.heap.size w w1) := hb1
  have HE1 : Hid (EReads w1 _ L) := HE.out.below hb1
  have HBs1 : Hid (Reads w1 _ bs) := HBs.out.below hb1
  clear hb1
  rcases h1 with ⟨L0, rfl, hs1, hok⟩ | ⟨rfl, hno⟩
  · rw [rot_zero] at hs1
    have HS1 : Hid (SK w1 w.heap.size L0 (putL [] L) false) := hs1
    clear hs1
    go_wp2_with fail
    refine (put8_any _ L _ bs m hm2 (by omega) _ HE1.out HBs1.out).mono ?_
    rintro e w2 ⟨hb2, ⟨L1, rfl, hs2, _⟩ | ⟨rfl, hno⟩⟩
    · rw [putL_rot m hok HOk.out] at hs2
      have HS2 : Hid (SK w2 w1.heap.size L1 (putL [] L) false) := hs2
      have HS1' : Hid (SK w2 w.heap.size L0 (putL [] L) false) := HS1.out.below hb2
      have HB2 : Hid (Below w.heap.size w w2) := HB1.out.trans (hb2.mono HB1.out.size)
      clear hs2 hb2 HS1 HB1 HE1 HBs1 HE HH HBs HOk
      go_wp2_with fail
      refine (alive_any _).mono ?_
      rintro e w3 ⟨rfl, hb3⟩
      have HS3 : Hid (SK w3 w1.heap.size L1 (putL [] L) false) := HS2.out.below hb3
      have HS3' : Hid (SK w3 w.heap.size L0 (putL [] L) false) := HS1'.out.below hb3
      have HB3 : Hid (Below w.heap.size w w3) := HB2.out.trans (hb3.mono HB2.out.size)
      clear hb3 HS2 HS1' HB2
      go_wp2_with fail
      refine (all_any L0 _ false _ _ HS3'.out).mono ?_
      rintro e w4 ⟨v4, xs4, rfl, ho4, he4, hb4⟩
      have HX4 : Hid (ERd w4 v4 (putL [] L)) := by rw [← he4]; exact ho4.rd
      have HS4 : Hid (SK w4 w1.heap.size L1 (putL [] L) false) := HS3.out.below hb4
      have HS4' : Hid (SK w4 w.heap.size L0 (putL [] L) false) := HS3'.out.below hb4
      have HB4 : Hid (Below w.heap.size w w4) := HB3.out.trans (hb4.mono HB3.out.size)
      clear hb4 ho4 he4 HS3 HS3' HB3
      go_wp2_with fail
      refine (all_any L1 _ false _ _ HS4.out).mono ?_
      rintro e w5 ⟨v5, xs5, rfl, ho5, he5, hb5⟩
      have HX5 : Hid (ERd w5 v5 (putL [] L)) := by rw [← he5]; exact ho5.rd
      have HX5' : Hid (ERd w5 v4 (putL [] L)) := HX4.out.below hb5
      have HS5 : Hid (SK w5 w1.heap.size L1 (putL [] L) false) := HS4.out.below hb5
      have HS5' : Hid (SK w5 w.heap.size L0 (putL [] L) false) := HS4'.out.below hb5
      have HB5 : Hid (Below w.heap.size w w5) := HB4.out.trans (hb5.mono HB4.out.size)
      clear hb5 ho5 he5 HS4 HS4' HB4 HX4
      go_wp2_with fail
      refine (same_true _ _ _ _ HX5'.out HX5.out).mono ?_
      rintro e w6 ⟨rfl, hb6⟩
      have HS6 : Hid (SK w6 w1.heap.size L1 (putL [] L) false) := HS5.out.below hb6
      have HS6' : Hid (SK w6 w.heap.size L0 (putL [] L) false) := HS5'.out.below hb6
      have HB6 : Hid (Below w.heap.size w w6) := HB5.out.trans (hb6.mono HB5.out.size)
      clear hb6 HS5 HS5' HB5 HX5 HX5'
      go_wp2_with fail
      refine (size_any L0 _ false _ _ HS6'.out).mono ?_
      rintro e w7 ⟨rfl, hw7⟩
      subst w7
      go_wp2_with fail
      refine (size_any L1 _ false _ _ HS6.out).mono ?_
      rintro e w7 ⟨rfl, hw7⟩
      subst w7
      go_wp2_with fail
      go_ret
      exact ⟨rfl, HB6.out⟩
    · rw [hok] at hno; cases hno
  · have HN : Hid (L.all okE = false) := hno
    clear hno
    go_wp2_with fail
    refine (put8_any _ L _ bs m hm2 (by omega) _ HE1.out HBs1.out).mono ?_
    rintro e w2 ⟨hb2, ⟨L1, rfl, hs2, hok⟩ | ⟨rfl, hno⟩⟩
    · rw [HN.out] at hok; cases hok
    · have HB2 : Hid (Below w.heap.size w w2) := HB1.out.trans (hb2.mono HB1.out.size)
      clear hb2 hno HB1 HE1 HBs1
      go_wp2_with fail
      refine (alive_any _).mono ?_
      rintro e w3 ⟨rfl, hb3⟩
      have HB3 : Hid (Below w.heap.size w w3) := HB2.out.trans (hb3.mono HB2.out.size)
      clear hb3
      go_wp2_with fail
      go_ret
      exact ⟨rfl, HB3.out⟩
end Go.Proofs.Ytagaakbbfohbpaa
