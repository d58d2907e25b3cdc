/- C1 C2 C3, joined. -/
import Derived.Test.YtdeaglfjlfbdoaaTG1
import Derived.Laws.BitsAllLaws
import Derived.ScopeJumps
import Derived.Laws.MakeOwn
/- The contract of code.Short: a number, short. -/
namespace Go.Proofs.Ytdeaglfjlfbdoaa
open Go.RowKit

/-- A number's bytes, short. -/
def sh (n : Nat) : List UInt8 := if n < 128 then [UInt8.ofNat n] else UInt8.ofNat (n % 128 + 128) :: sh (n / 128)
termination_by n
decreasing_by omega
theorem sh_lo {n : Nat} (h : n < 128) : sh n = [UInt8.ofNat n] := by rw [sh]; simp [h]
theorem sh_hi {n : Nat} (h : ¬ n < 128) : sh n = UInt8.ofNat (n % 128 + 128) :: sh (n / 128) := by rw [sh]; simp [h]
theorem bc_of {n : Nat} (h : n < 256) : bc (UInt8.ofNat n) = .int .u8 (n : Int) := by
  unfold bc
  have : (UInt8.ofNat n).toNat = n := by simp [UInt8.toNat_ofNat']; omega
  rw [this]
theorem sh_len (k : Nat) : ∀ n, n < 128 ^ (k + 1) → (sh n).length ≤ k + 1 := by
  induction k with
  | zero => intro n hn; rw [sh_lo (by simpa using hn)]; simp
  | succ k ih =>
    intro n hn
    by_cases h : n < 128
    · rw [sh_lo h]; simp
    · rw [sh_hi h]
      have := ih (n / 128) (by rw [Nat.div_lt_iff_lt_mul (by omega)]; rw [Nat.pow_succ] at hn; exact hn)
      simp; omega
theorem sh_len10 {n : Nat} (h : n < 18446744073709551616) : (sh n).length ≤ 10 := sh_len 9 n (Nat.lt_of_lt_of_le h (by decide))
theorem sh_pos (n : Nat) : 0 < (sh n).length := by
  by_cases h : n < 128
  · rw [sh_lo h]; simp
  · rw [sh_hi h]; simp

end Go.Proofs.Ytdeaglfjlfbdoaa

/- The contract of code.ReadShort. -/
namespace Go.Proofs.Ytdeaglfjlfbdoaa
open Go.RowKit

/-- What ReadShort tells of bytes, of which i were read, and made v. -/
def rsF : List UInt8 → Nat → Nat → Nat × Nat × Int
  | [], _, _ => (0, 0, 10)
  | x :: l, i, v =>
    if i = 9 ∧ 1 < x.toNat then (0, 0, 11)
    else if 128 ≤ x.toNat then rsF l (i + 1) (v + x.toNat % 128 * 128 ^ i)
    else if x.toNat = 0 ∧ 0 < i then (0, 0, 3) else (v + x.toNat % 128 * 128 ^ i, i + 1, 0)

/-- What holds at each jump to the fault. -/
def JRs (l : List UInt8) (w : World) (a' : Act) (w' : World) : Prop := w' = w ∧ ∃ (u0 u1 u2 u3 u4 u5 u7 u8 u9 u10 u11 u12 u13 u14 u15 u16 u17 u18 u19 u20 u21 u22 u23 u24 u25 u26 u27 u28 u29 u30 u31 u32 u33 u34 u35 u36 u37 u38 u39 u40 u41 u42 : Value), a' = { tmps := #[u0, u1, u2, u3, u4, u5, .int .i64 (rsF l 0 0).2.2, u7, u8, u9, u10, u11, u12, u13, u14, u15, u16, u17, u18, u19, u20, u21, u22, u23, u24, u25, u26, u27, u28, u29, u30, u31, u32, u33, u34, u35, u36, u37, u38, u39, u40, u41, u42], defers := [] } ∧ (rsF l 0 0).1 = 0 ∧ (rsF l 0 0).2.1 = 0
theorem JRs_of {l : List UInt8} {w : World} {E : Int} {u0 u1 u2 u3 u4 u5 u7 u8 u9 u10 u11 u12 u13 u14 u15 u16 u17 u18 u19 u20 u21 u22 u23 u24 u25 u26 u27 u28 u29 u30 u31 u32 u33 u34 u35 u36 u37 u38 u39 u40 u41 u42 : Value} (h : rsF l 0 0 = (0, 0, E)) : JRs l w { tmps := #[u0, u1, u2, u3, u4, u5, .int .i64 E, u7, u8, u9, u10, u11, u12, u13, u14, u15, u16, u17, u18, u19, u20, u21, u22, u23, u24, u25, u26, u27, u28, u29, u30, u31, u32, u33, u34, u35, u36, u37, u38, u39, u40, u41, u42], defers := [] } w := by
  refine ⟨rfl, u0, u1, u2, u3, u4, u5, u7, u8, u9, u10, u11, u12, u13, u14, u15, u16, u17, u18, u19, u20, u21, u22, u23, u24, u25, u26, u27, u28, u29, u30, u31, u32, u33, u34, u35, u36, u37, u38, u39, u40, u41, u42, ?_, by rw [h], by rw [h]⟩
  rw [h]
theorem jump_ret {l : Nat} {J : Act → World → Prop} {Q : Exit → Act → World → Prop} {a : Act} {w : World} : Exit.jump l J Q .ret a w = Q .ret a w := rfl
theorem rsF_cons (x : UInt8) (l : List UInt8) (i v : Nat) : rsF (x :: l) i v = if i = 9 ∧ 1 < x.toNat then (0, 0, 11) else if 128 ≤ x.toNat then rsF l (i + 1) (v + x.toNat % 128 * 128 ^ i) else if x.toNat = 0 ∧ 0 < i then (0, 0, 3) else (v + x.toNat % 128 * 128 ^ i, i + 1, 0) := rfl
theorem pow128 (k : Nat) (hk : k ≤ 9) : 128 ^ k ≤ 9223372036854775808 := by
  have : 128 ^ k ≤ 128 ^ 9 := Nat.pow_le_pow_right (by omega) hk
  exact Nat.le_trans this (by decide)
theorem pow2_128 (k : Nat) : (2 : Nat) ^ (7 * k) = 128 ^ k := by rw [Nat.pow_mul]
theorem short_fit (z k : Nat) (hk : k ≤ 9) (hz : z < 128) (h9 : k = 9 → z ≤ 1) : z * 128 ^ k ≤ 9223372036854775808 := by
  by_cases h : k = 9
  · subst h
    have := h9 rfl
    have : z * 128 ^ 9 ≤ 1 * 128 ^ 9 := Nat.mul_le_mul_right _ this
    exact Nat.le_trans this (by decide)
  · have h1 : z * 128 ^ k ≤ 128 * 128 ^ k := Nat.mul_le_mul_right _ (by omega)
    have h2 : 128 * 128 ^ k = 128 ^ (k + 1) := by rw [Nat.pow_succ, Nat.mul_comm]
    rw [h2] at h1
    exact Nat.le_trans h1 (pow128 (k + 1) (by omega))
theorem or_short (v y k : Nat) (hk : k ≤ 9) (hv : v < 128 ^ k) (h9 : k = 9 → y % 128 ≤ 1) : bits .or .u64 (v : Int) (IntKind.u64.wrap ((y : Int) % 128 * 2 ^ (7 * k))) = ((v + y % 128 * 128 ^ k : Nat) : Int) := by
  have hf := short_fit (y % 128) k hk (by omega) h9
  have hp := pow128 k hk
  have e : (y : Int) % 128 * 2 ^ (7 * k) = ((y % 128 * 128 ^ k : Nat) : Int) := by
    rw [← pow2_128]; push_cast; rfl
  rw [e, IntKind.wrap_u64]
  have e2 : ((y % 128 * 128 ^ k : Nat) : Int) % 18446744073709551616 = ((y % 128 * 128 ^ k : Nat) : Int) := by omega
  rw [e2, bits_or_u64_nat _ _ (by omega) (by omega), Nat.or_comm, nat_join (7 * k) _ _ (by rw [pow2_128]; exact Nat.mul_mod_left _ _) (by rw [pow2_128]; exact hv), Nat.add_comm]

end Go.Proofs.Ytdeaglfjlfbdoaa

/- The contract of code.Text: a text in order. -/
namespace Go.Proofs.Ytdeaglfjlfbdoaa
open Go.RowKit

/-- A text's bytes in order, ahead of its end. -/
def txb : List UInt8 → List UInt8
  | [] => []
  | x :: l => (if x.toNat = 0 then [x, 255] else [x]) ++ txb l
/-- A text's bytes in order. -/
def tx (l : List UInt8) : List UInt8 := txb l ++ [0, 1]
theorem txb_append (a b : List UInt8) : txb (a ++ b) = txb a ++ txb b := by
  induction a with
  | nil => rfl
  | cons x a ih => simp [txb, ih]
theorem txb_len (l : List UInt8) : (txb l).length ≤ 2 * l.length := by
  induction l with
  | nil => simp [txb]
  | cons x l ih => simp only [txb, List.length_append, List.length_cons]; split <;> simp <;> omega

theorem txb_snoc (l : List UInt8) (k : Nat) (h : k < l.length) : txb (l.take (k + 1)) = txb (l.take k) ++ (if l[k].toNat = 0 then [l[k], 255] else [l[k]]) := by
  rw [List.take_succ_eq_append_getElem h, txb_append]
  simp [txb]
set_option maxRecDepth 100000 in
set_option maxHeartbeats 1000000 in
theorem text_any (s : ByteArray) (hs : s.size ≤ 10000) (w : World) :
    Calls Try.prog 38 #[.string s] w fun e w' => ∃ v, e = .returned v ∧ w'.ownsRow w.heap.size 5 1 v (tx s.data.toList).length ((tx s.data.toList).map bc) ∧ Below w.heap.size w w' := by
  obtain ⟨i0, hi, hz0, hz1, hz2⟩ := info_parts info5
  have hsl : s.data.toList.length = s.size := Array.length_toList
  obtain ⟨w0, hr, hown0, hg0⟩ := run_make_own (P := Try.prog) w w.heap.size 23 5 i0 (.int .u8 0) 1 Try.underlying23 hi hz0 hz1 .i64 .i64 (s.size + 2) (by rw [hz2]; omega) (by unfold maxLen; omega) (Nat.le_refl _)
  have e2 : ((s.size + 2 : Nat) : Int) = (s.size : Int) + 2 := by omega
  rw [e2] at hr
  clear e2
  have HB0 : Hid (Below w.heap.size w w0) := (Below.refl _ _).grown hg0 (Nat.le_refl _) (fun k hk => by cases hk)
  have HO0 : Hid (w0.ownsRow w.heap.size 5 1 (.slice (some ⟨w.heap.size, 0, none⟩) 0 (s.size + 2)) (txb (s.data.toList.take 0)).length ((txb (s.data.toList.take 0)).map bc)) := hown0
  clear hown0 hg0
  go_enter Try.func38, Try.ntmps38
  go_wp2_with fail
  clear hr
  go_loopw [3, 11] (fun v i wr => ∃ k : Nat, k ≤ s.size ∧ i = .int .i64 (k : Int) ∧ wr.ownsRow w.heap.size 5 1 v (txb (s.data.toList.take k)).length ((txb (s.data.toList.take k)).map bc) ∧ Below w.heap.size w wr) (fun _ i _ => s.size - (intOf i).toNat)
  case atStart => exact ⟨0, by omega, rfl, HO0.out, HB0.out⟩
  case round =>
    obtain ⟨k, hk, rfl, hown, hbr⟩ := hrel
    have hlen := txb_len (s.data.toList.take k)
    have htk : (s.data.toList.take k).length ≤ k := List.length_take_le _ _
    have hsz := hbr.size
    by_cases hlt : k < s.size
    · have hsn := txb_snoc s.data.toList k (by omega)
      have hxe : s[k] = s.data.toList[k]'(by omega) := rfl
      rw [← hxe] at hsn
      have HSN : Hid _ := hsn
      have HHL : Hid (s.data.toList.length = s.size) := hsl
      clear hsn hxe hsl
      generalize hx : s[k] = x at *
      generalize s.data.toList.take k = L at *
      by_cases hx0 : x.toNat = 0
      · have HX : Hid (x.toNat = 0) := hx0
        have i5 : ((x.toNat : Int) == 0) = true := by simp [hx0]
        have i6 : bc x = .int .u8 0 := by unfold bc; rw [hx0]; rfl
        have HBC : Hid (bc x = .int .u8 0) := i6
        clear hx0 i6
        go_wp2_with (at_builtin; refine wpList_append_own _ rfl _ _ 23 rfl w.heap.size 5 i0 (.int .u8 0) 1 1 Try.underlying23 hi hz0 hz1 hz2 rfl (by decide) _ _ _ rfl (hown.alloc _) ⟨wr.heap.size, 0, none⟩ 1 1 [.int .u8 (x.toNat : Int)] rfl rfl news1 one1 (len_ok (by omega)).1 (len_ok (by omega)).2 (al_ok hsz) ?_)
        intro v' w1 hown' hgrow _
        have HO1 : Hid (w1.ownsRow w.heap.size 5 1 v' ((txb L).length + 1) ((txb L).map bc ++ [bc x])) := hown'
        have HB1 : Hid (Below w.heap.size w w1) := (hbr.alloc hbr.size _).grown hgrow (al_ok hsz) (own_block hown)
        have hown1 : w1.ownsRow w.heap.size 5 1 v' ((txb L).length + 1) ((txb L).map bc ++ [bc x]) := HO1.out
        have hsz1 := HB1.out.size
        clear hown hown' hgrow hbr hsz
        go_wp2_with (at_builtin; refine wpList_append_own _ rfl _ _ 23 rfl w.heap.size 5 i0 (.int .u8 0) 1 1 Try.underlying23 hi hz0 hz1 hz2 rfl (by decide) _ _ _ rfl (hown1.alloc _) ⟨w1.heap.size, 0, none⟩ 1 1 [.int .u8 255] rfl rfl news1 one1 (len_ok (by omega)).1 (len_ok (by omega)).2 (al_ok hsz1) ?_)
        intro v2 w2 hown2 hgrow2 _
        have HO2 : Hid (w2.ownsRow w.heap.size 5 1 v2 (txb (s.data.toList.take (k + 1))).length ((txb (s.data.toList.take (k + 1))).map bc)) := by
          rw [HSN.out, if_pos HX.out, List.map_append, List.length_append]
          have e : ((txb L).map bc ++ [x, 255].map bc) = (txb L).map bc ++ [bc x, .int .u8 255] := rfl
          have e2 : (txb L).length + [x, 255].length = (txb L).length + 1 + 1 := rfl
          rw [e, e2]
          exact hown2
        have HB2 : Hid (Below w.heap.size w w2) := (HB1.out.alloc HB1.out.size _).grown hgrow2 (al_ok hsz1) (own_block hown1)
        clear hown1 hown2 hgrow2 hsz1 HO1 HB1
        go_wp2_with fail
        go_roundw
        case rel => exact ⟨k + 1, by omega, by go_num, HO2.out, HB2.out⟩
        case measure => simp [intOf]; omega
      · have HX : Hid (¬ x.toNat = 0) := hx0
        have i5 : ((x.toNat : Int) == 0) = false := by simp; omega
        clear hx0
        go_wp2_with (at_builtin; refine wpList_append_own _ rfl _ _ 23 rfl w.heap.size 5 i0 (.int .u8 0) 1 1 Try.underlying23 hi hz0 hz1 hz2 rfl (by decide) _ _ _ rfl (hown.alloc _) ⟨wr.heap.size, 0, none⟩ 1 1 [.int .u8 (x.toNat : Int)] rfl rfl news1 one1 (len_ok (by omega)).1 (len_ok (by omega)).2 (al_ok hsz) ?_)
        intro v' w1 hown' hgrow _
        have HO2 : Hid (w1.ownsRow w.heap.size 5 1 v' (txb (s.data.toList.take (k + 1))).length ((txb (s.data.toList.take (k + 1))).map bc)) := by
          rw [HSN.out, if_neg HX.out, List.map_append, List.length_append]
          exact hown'
        have HB2 : Hid (Below w.heap.size w w1) := (hbr.alloc hbr.size _).grown hgrow (al_ok hsz) (own_block hown)
        clear hown hown' hgrow hbr hsz
        go_wp2_with fail
        go_roundw
        case rel => exact ⟨k + 1, by omega, by go_num, HO2.out, HB2.out⟩
        case measure => simp [intOf]; omega
    · have hke : k = s.size := by omega
      subst hke
      have HTK : Hid (s.data.toList.take s.size = s.data.toList) := List.take_of_length_le (by omega)
      clear hsl
      generalize s.data.toList.take s.size = L at *
      go_wp2_with (at_builtin; refine wpList_append_own _ rfl _ _ 23 rfl w.heap.size 5 i0 (.int .u8 0) 1 1 Try.underlying23 hi hz0 hz1 hz2 rfl (by decide) _ _ _ rfl (hown.alloc _) ⟨wr.heap.size, 0, none⟩ 2 2 [.int .u8 0, .int .u8 1] rfl rfl news2 one2 (len_ok (by omega)).1 (len_ok (by omega)).2 (al_ok hsz) ?_)
      intro v' w1 hown' hgrow _
      have HO2 : Hid (w1.ownsRow w.heap.size 5 1 v' (tx s.data.toList).length ((tx s.data.toList).map bc)) := by
        unfold tx
        rw [← HTK.out, List.map_append, List.length_append]
        exact hown'
      have HB2 : Hid (Below w.heap.size w w1) := (hbr.alloc hbr.size _).grown hgrow (al_ok hsz) (own_block hown)
      clear hown hown' hgrow hbr hsz
      go_wp2_with fail
      go_ret
      exact ⟨_, rfl, HO2.out, HB2.out⟩
end Go.Proofs.Ytdeaglfjlfbdoaa
