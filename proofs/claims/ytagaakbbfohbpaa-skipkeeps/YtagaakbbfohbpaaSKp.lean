/- The walk of SkipKeeps. -/
import Derived.Test.YtagaakbbfohbpaaST
import Derived.Test.YtagaakbbfohbpaaOX
namespace Go.Proofs.Ytagaakbbfohbpaa
open Go.RowKit

theorem mp_frozen (h : Int) (n : Nat) (a : Ag) : mpF true h n a = 7 ∨ mpF true h n a = 1 := by
  unfold mpF
  split
  · exact .inr rfl
  · exact .inl rfl
theorem put_frozen (L0 : Nat) (E : List En) (kv : Value) (k : Ks) (a : Ag) (h : Int) (w : World) (base : Nat) (hS : SK w base L0 E true) (hR : Reads w kv k) :
    Calls Try.prog 12 #[.pointer (some ⟨L0, 0, none⟩), env kv a, .int .i64 h] w fun e w' => e = .returned (.int .i64 (mpF true h k.length a)) ∧ Below w.heap.size w w' := by
  obtain ⟨N, hSL, rfl⟩ := hS
  exact put_no L0 N _ true kv k a h w base hSL hR (by rcases mp_frozen h k.length a with e | e <;> rw [e] <;> decide)
set_option maxRecDepth 100000 in
set_option maxHeartbeats 2000000 in
theorem keeps_walk (v : Value) (L : List En) (hv : Value) (hs : List UInt8) (kv : Value) (k : Ks) (x : Ag) (h : Int) (w : World) (hE : EReads w v L) (hH : Reads w hv hs) (hK : Reads w kv k) (hX : AgOk x) :
    Calls Try.prog 7 #[v, hv, env kv x, .int .i64 h] w fun e w' => e = .returned (.bool true) ∧ Below w.heap.size w w' := by
  have HE : Hid (EReads w v L) := hE
  have HH : Hid (Reads w hv hs) := hH
  have HK : Hid (Reads w kv k) := hK
  obtain ⟨a, cap, rfl, hcap, hm, hE3⟩ := hE
  obtain ⟨ah, ch, rfl, _⟩ := hH.form
  obtain ⟨ak, ck, rfl, hmk⟩ := hK.form
  unfold maxLen at hm hmk
  clear hE3 hH hK
  have HC : Hid (0 ≤ x.c ∧ x.c < 18446744073709551616) := ⟨hX.c1, hX.c2⟩
  obtain ⟨w0, HW0⟩ := hid_ex (w.alloc (.cells #[.slice ak k.length ck, .int .u64 x.c, .bool x.o, .int .i64 (hi x.s), .int .u64 (lo x.s), .int .i64 x.mn, .int .i64 x.mx] 36))
  have HAl : Hid (Below w.heap.size w w0) := by rw [HW0.out]; exact (Below.refl _ _).alloc (Nat.le_refl _) _
  have HZ : Hid (w0.heap[w.heap.size]? = some (.cells #[.slice ak k.length ck, .int .u64 x.c, .bool x.o, .int .i64 (hi x.s), .int .u64 (lo x.s), .int .i64 x.mn, .int .i64 x.mx] 36)) := by rw [HW0.out]; exact World.alloc_heap_new _ _
  unfold env
  go_enter Try.func7, Try.ntmps7
  by_cases g1 : (100 : Int) < (L.length : Int)
  · go_wp2_with fail
    rw [← HW0.out]
    refine (alive_any _).mono ?_
    rintro e w4 ⟨rfl, hb4⟩
    have HB4 : Hid (Below w.heap.size w w4) := HAl.out.trans (hb4.mono HAl.out.size)
    clear hb4
    go_wp2_with fail
    go_ret
    exact ⟨rfl, HB4.out⟩
  by_cases g2 : (1000 : Int) < (k.length : Int)
  · go_wp2_with fail
    rw [← HW0.out]
    refine (alive_any _).mono ?_
    rintro e w4 ⟨rfl, hb4⟩
    have HB4 : Hid (Below w.heap.size w w4) := HAl.out.trans (hb4.mono HAl.out.size)
    clear hb4
    go_wp2_with fail
    go_ret
    exact ⟨rfl, HB4.out⟩
  go_wp2_with fail
  rw [← HW0.out]
  refine (put8_any _ L _ hs 0 (by decide) (by omega) _ (HE.out.below HAl.out) (HH.out.below HAl.out)).mono ?_
  rintro e w1 ⟨hb1, h1⟩
  have HB1 : Hid (Below w.heap.size w w1) := HAl.out.trans (hb1.mono HAl.out.size)
  have HZ1 : Hid (w1.heap[w.heap.size]? = _) := (hb1.block _ (Array.getElem?_eq_some_iff.1 HZ.out).1).trans HZ.out
  have HS0 : Hid (w.heap.size < w0.heap.size) := (Array.getElem?_eq_some_iff.1 HZ.out).1
  clear hb1 HW0 HAl HZ HE HH
  rcases h1 with ⟨L0, rfl, hs1, _⟩ | ⟨rfl, _⟩
  · rw [rot_zero] at hs1
    obtain ⟨E, HEE⟩ := hid_ex (putL [] L)
    have HEl : Hid (E.length ≤ 100) := by
      have := putL_len L []
      rw [HEE.out]
      show (putL [] L).length ≤ 100
      simp at this
      omega
    rw [← HEE.out] at hs1
    have HS1 : Hid (SK w1 w0.heap.size L0 E false) := hs1
    clear hs1 HEE
    go_wp2_with fail
    refine (freeze_any L0 _ false _ _ HS1.out).mono ?_
    rintro e w2 ⟨rfl, hs2, hb2⟩
    have HS2 : Hid (SK w2 w0.heap.size L0 E true) := hs2
    have HZ2 : Hid (w2.heap[w.heap.size]? = _) := (hb2.block _ HS0.out).trans HZ1.out
    have HB2 : Hid (Below w.heap.size w w2) := HB1.out.trans (hb2.mono (Nat.le_of_lt HS0.out))
    clear hs2 hb2 HB1 HZ1 HS1
    go_wp2_with fail
    refine (all_any L0 _ true _ _ HS2.out).mono ?_
    rintro e w3 ⟨v3, xs3, rfl, ho3, he3, hb3⟩
    have HX3 : Hid (ERd w3 v3 E) := by rw [← he3]; exact ho3.rd
    have HS3 : Hid (SK w3 w0.heap.size L0 E true) := HS2.out.below hb3
    have HZ3 : Hid (w3.heap[w.heap.size]? = _) := (hb3.block _ (Array.getElem?_eq_some_iff.1 HZ2.out).1).trans HZ2.out
    have HB3 : Hid (Below w.heap.size w w3) := HB2.out.trans (hb3.mono HB2.out.size)
    clear hb3 ho3 he3 HS2 HZ2 HB2
    obtain ⟨z0, _⟩ := cell_row HZ3.out 0 (by simp)
    obtain ⟨z1, _⟩ := cell_row HZ3.out 1 (by simp)
    obtain ⟨z2, _⟩ := cell_row HZ3.out 2 (by simp)
    obtain ⟨z3, _⟩ := cell_row HZ3.out 3 (by simp)
    obtain ⟨z4, _⟩ := cell_row HZ3.out 4 (by simp)
    obtain ⟨z5, _⟩ := cell_row HZ3.out 5 (by simp)
    obtain ⟨z6, _⟩ := cell_row HZ3.out 6 (by simp)
    simp only [List.getElem_toArray, List.getElem_cons_succ, List.getElem_cons_zero] at z0 z1 z2 z3 z4 z5 z6
    go_wp2_with fail
    refine (put_frozen L0 E _ k x h _ _ HS3.out (HK.out.below HB3.out)).mono ?_
    rintro e w4 ⟨rfl, hb4⟩
    have HX4 : Hid (ERd w4 v3 E) := HX3.out.below hb4
    have HS4 : Hid (SK w4 w0.heap.size L0 E true) := HS3.out.below hb4
    have HB4 : Hid (Below w.heap.size w w4) := HB3.out.trans (hb4.mono HB3.out.size)
    clear hb4 HX3 HS3 HZ3 HB3 z0 z1 z2 z3 z4 z5 z6
    obtain ⟨q, HQ⟩ := hid_ex (mpF true h k.length x)
    have hq : q = 7 ∨ q = 1 := by rw [HQ.out]; exact mp_frozen h k.length x
    rw [← HQ.out]
    clear HQ
    rcases hq with rfl | rfl
    · go_wp2_with fail
      refine (alive_any _).mono ?_
      rintro e w5 ⟨rfl, hb5⟩
      have HX5 : Hid (ERd w5 v3 E) := HX4.out.below hb5
      have HS5 : Hid (SK w5 w0.heap.size L0 E true) := HS4.out.below hb5
      have HB5 : Hid (Below w.heap.size w w5) := HB4.out.trans (hb5.mono HB4.out.size)
      clear hb5 HX4 HS4 HB4
      go_wp2_with fail
      refine (all_any L0 _ true _ _ HS5.out).mono ?_
      rintro e w6 ⟨v6, xs6, rfl, ho6, he6, hb6⟩
      have HX6 : Hid (ERd w6 v6 E) := by rw [← he6]; exact ho6.rd
      have HX6' : Hid (ERd w6 v3 E) := HX5.out.below hb6
      have HS6 : Hid (SK w6 w0.heap.size L0 E true) := HS5.out.below hb6
      have HB6 : Hid (Below w.heap.size w w6) := HB5.out.trans (hb6.mono HB5.out.size)
      clear hb6 ho6 he6 HX5 HS5 HB5
      go_wp2_with fail
      refine (same_true _ _ _ _ HX6.out HX6'.out).mono ?_
      rintro e w7 ⟨rfl, hb7⟩
      have HS7 : Hid (SK w7 w0.heap.size L0 E true) := HS6.out.below hb7
      have HB7 : Hid (Below w.heap.size w w7) := HB6.out.trans (hb7.mono HB6.out.size)
      clear hb7 HX6 HX6' HS6 HB6
      go_wp2_with fail
      refine (frozen_any L0 _ true _ _ HS7.out).mono ?_
      rintro e w8 ⟨rfl, hw8⟩
      subst w8
      go_wp2_with fail
      refine (freeze_any L0 _ true _ _ HS7.out).mono ?_
      rintro e w8 ⟨rfl, _, hb8⟩
      have HB8 : Hid (Below w.heap.size w w8) := HB7.out.trans (hb8.mono (Nat.le_of_lt HS0.out))
      clear hb8
      go_wp2_with fail
      go_ret
      exact ⟨rfl, HB8.out⟩
    · go_wp2_with fail
      refine (alive_any _).mono ?_
      rintro e w5 ⟨rfl, hb5⟩
      have HX5 : Hid (ERd w5 v3 E) := HX4.out.below hb5
      have HS5 : Hid (SK w5 w0.heap.size L0 E true) := HS4.out.below hb5
      have HB5 : Hid (Below w.heap.size w w5) := HB4.out.trans (hb5.mono HB4.out.size)
      clear hb5 HX4 HS4 HB4
      go_wp2_with fail
      refine (all_any L0 _ true _ _ HS5.out).mono ?_
      rintro e w6 ⟨v6, xs6, rfl, ho6, he6, hb6⟩
      have HX6 : Hid (ERd w6 v6 E) := by rw [← he6]; exact ho6.rd
      have HX6' : Hid (ERd w6 v3 E) := HX5.out.below hb6
      have HS6 : Hid (SK w6 w0.heap.size L0 E true) := HS5.out.below hb6
      have HB6 : Hid (Below w.heap.size w w6) := HB5.out.trans (hb6.mono HB5.out.size)
      clear hb6 ho6 he6 HX5 HS5 HB5
      go_wp2_with fail
      refine (same_true _ _ _ _ HX6.out HX6'.out).mono ?_
      rintro e w7 ⟨rfl, hb7⟩
      have HS7 : Hid (SK w7 w0.heap.size L0 E true) := HS6.out.below hb7
      have HB7 : Hid (Below w.heap.size w w7) := HB6.out.trans (hb7.mono HB6.out.size)
      clear hb7 HX6 HX6' HS6 HB6
      go_wp2_with fail
      refine (frozen_any L0 _ true _ _ HS7.out).mono ?_
      rintro e w8 ⟨rfl, hw8⟩
      subst w8
      go_wp2_with fail
      refine (freeze_any L0 _ true _ _ HS7.out).mono ?_
      rintro e w8 ⟨rfl, _, hb8⟩
      have HB8 : Hid (Below w.heap.size w w8) := HB7.out.trans (hb8.mono (Nat.le_of_lt HS0.out))
      clear hb8
      go_wp2_with fail
      go_ret
      exact ⟨rfl, HB8.out⟩
  · go_wp2_with fail
    refine (alive_any _).mono ?_
    rintro e w4 ⟨rfl, hb4⟩
    have HB4 : Hid (Below w.heap.size w w4) := HB1.out.trans (hb4.mono HB1.out.size)
    clear hb4
    go_wp2_with fail
    go_ret
    exact ⟨rfl, HB4.out⟩
end Go.Proofs.Ytagaakbbfohbpaa
