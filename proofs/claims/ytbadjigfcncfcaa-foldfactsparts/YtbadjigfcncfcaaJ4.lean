/- K1 C1 C2 C3 C4 W10 W11 W12 C5 C6 C8 C9 K2 K3 K5 K7 K6 K8 RT K10 K9 K11 CM KBm FL1 FL2, joined. -/
import Derived.Test.YtbadjigfcncfcaaJ3
import Derived.Laws.BitsAllLaws
import Derived.ScopeJumps
import Derived.Laws.MakeOwn
import Derived.Deep.QuietTactic
import Derived.BigQuiet
/- The contracts of key.mayBe and key.Right. -/
namespace Go.Proofs.Ytbadjigfcncfcaa
open Go.RowKit

/-- May a key with these dimensions be? -/
def mayB (L : List ByteArray) : Bool := decide (L.length ≤ 4 ∧ ∀ s ∈ L, s.size ≤ 16)
theorem mayB_iff {L : List ByteArray} : mayB L = true ↔ L.length ≤ 4 ∧ ∀ s ∈ L, s.size ≤ 16 := by unfold mayB; exact decide_eq_true_iff
theorem mayB_no {L : List ByteArray} (h : ¬ (L.length ≤ 4 ∧ ∀ s ∈ L, s.size ≤ 16)) : mayB L = false := by unfold mayB; exact decide_eq_false h
theorem ret_bool {a b : Bool} (h : a = b) : Ending.returned (.bool a) = .returned (.bool b) := by rw [h]
def rightBK (L : List ByteArray) (f g : Int) : Bool := mayB L && decide (0 ≤ f ∧ f ≤ 1099511627776 ∧ 0 ≤ g ∧ g ≤ 3)
set_option maxRecDepth 100000 in
set_option maxHeartbeats 1000000 in
theorem mayBe_some (b off cap : Nat) (L : List ByteArray) (hl : L.length ≤ maxLen) (hs : ∀ s ∈ L, s.size ≤ maxLen) (w : World) (hc : ∀ j (h : j < L.length), w.cell? ⟨b, off + j, none⟩ = some (.string L[j])) :
    Calls Try.prog 60 #[.slice (some ⟨b, off, none⟩) L.length cap] w fun e w' => e = .returned (.bool (mayB L)) ∧ w' = w := by
  have HC : Hid (∀ j (h : j < L.length), w.cell? ⟨b, off + j, none⟩ = some (.string L[j])) := hc
  have HS : Hid (∀ s ∈ L, s.size ≤ maxLen) := hs
  unfold maxLen at hl
  clear hc hs
  by_cases h4 : 4 < L.length
  · have HM : Hid (mayB L = false) := mayB_no (by omega)
    have i1 : (4 : Int) < (L.length : Int) := by omega
    clear h4
    go_enter Try.func60, Try.ntmps60
    go_wp2_with fail
    go_ret
    exact ⟨by rw [HM.out]; rfl, rfl⟩
  · have i1 : ¬ (4 : Int) < (L.length : Int) := by omega
    go_enter Try.func60, Try.ntmps60
    go_wp2_with fail
    go_loop [10] (fun i => ∃ k : Nat, k ≤ L.length ∧ i = .int .i64 k ∧ Hid (∀ s ∈ L.take k, s.size ≤ 16)) (fun i => L.length - (intOf i).toNat)
    case atStart => exact ⟨0, Nat.zero_le _, rfl, by intro s hs; simp at hs⟩
    case round =>
      obtain ⟨k, hk, rfl, HK⟩ := hrel
      by_cases hlt : k < L.length
      · have hcell := HC.out k hlt
        have hsz : L[k].size ≤ maxLen := HS.out _ (List.getElem_mem hlt)
        unfold maxLen at hsz
        by_cases h16 : 16 < L[k].size
        · have HM : Hid (mayB L = false) := mayB_no (by intro h; have := h.2 _ (List.getElem_mem hlt); omega)
          have i2 : (16 : Int) < (L[k].size : Int) := by omega
          go_wp2_with fail
          go_ret
          exact ⟨by rw [HM.out]; rfl, rfl⟩
        · have i2 : ¬ (16 : Int) < (L[k].size : Int) := by omega
          have HK1 : Hid (∀ s ∈ L.take (k + 1), s.size ≤ 16) := by
            intro s hs
            rw [List.take_succ_eq_append_getElem hlt] at hs
            rcases List.mem_append.1 hs with hs | hs
            · exact HK.out s hs
            · simp at hs; subst hs; omega
          go_wp2_with fail
          go_round
          case rel => exact ⟨k + 1, by omega, by go_num, HK1⟩
          case measure => simp [intOf]; omega
      · have HM : Hid (mayB L = true) := by
          refine mayB_iff.2 ⟨by omega, ?_⟩
          have := HK.out
          rwa [List.take_of_length_le (by omega)] at this
        go_wp2_with fail
        go_ret
        exact ⟨by rw [HM.out]; rfl, rfl⟩
theorem mayBe_none (a : Option Addr) (cap : Nat) (w : World) :
    Calls Try.prog 60 #[.slice a 0 cap] w fun e w' => e = .returned (.bool (mayB [])) ∧ w' = w := by
  go_enter Try.func60, Try.ntmps60
  go_wp2_with fail
  go_loop [10] (fun i => i = .int .i64 0) (fun _ => 0)
  case atStart => rfl
  case round =>
    subst hrel
    go_wp2_with fail
    go_ret
    exact ⟨rfl, rfl⟩
theorem mayBe_any (v : Value) (L : List ByteArray) (w : World) (h : SReads w v L) :
    Calls Try.prog 60 #[v] w fun e w' => e = .returned (.bool (mayB L)) ∧ w' = w := by
  rcases h with ⟨rfl, a, cap, rfl, _⟩ | ⟨b, off, cap, rfl, h2, h3, h4, h5, h6, h7⟩
  · exact mayBe_none a cap w
  · exact mayBe_some b off cap L (by omega) h7 w h6
set_option maxRecDepth 100000 in
set_option maxHeartbeats 1000000 in
theorem right_anyK (k : Ky) (w : World) (h : KLies k w) :
    Calls Try.prog 34 #[k.val] w fun e w' => e = .returned (.bool (rightBK k.L k.f k.g)) ∧ Below w.heap.size w w' := by
  obtain ⟨v, L, f, g⟩ := k
  obtain ⟨hr, f1, f2, g1, g2⟩ := h
  simp only at hr f1 f2 g1 g2
  obtain ⟨a, cap, rfl, hm⟩ := hr.form
  unfold Ky.val
  simp only
  have hr1 : SReads (w.alloc (.cells #[.slice a L.length cap, .int .i64 f, .int .i64 g] 73)) (.slice a L.length cap) L := hr.below ((Below.refl _ _).alloc (Nat.le_refl _) _)
  have HB : Hid (Below w.heap.size w (w.alloc (.cells #[.slice a L.length cap, .int .i64 f, .int .i64 g] 73))) := (Below.refl _ _).alloc (Nat.le_refl _) _
  have HR : Hid (rightBK L f g = (mayB L && decide (0 ≤ f ∧ f ≤ 1099511627776 ∧ 0 ≤ g ∧ g ≤ 3))) := rfl
  clear hr
  go_enter Try.func34, Try.ntmps34
  go_wp2_with fail
  refine (mayBe_any _ L _ hr1).mono ?_
  rintro e w1 ⟨rfl, hw⟩
  subst w1
  clear hr1
  cases hmb : mayB L with
  | false =>
    have HF : Hid (rightBK L f g = false) := by rw [HR.out, hmb]; rfl
    clear hmb
    go_wp2_with fail
    go_ret
    exact ⟨by rw [HF.out]; rfl, HB.out⟩
  | true =>
    by_cases hall : 0 ≤ f ∧ f ≤ 1099511627776 ∧ 0 ≤ g ∧ g ≤ 3
    · have HF : Hid (rightBK L f g = true) := by unfold Hid; rw [HR.out, hmb, decide_eq_true hall]; rfl
      obtain ⟨c1, c2, c3, c4⟩ := hall
      have c5 : g < 4 := by omega
      clear HR hmb c4
      go_wp2_with fail
      go_ret
      exact ⟨by rw [HF.out]; rfl, HB.out⟩
    · have HF : Hid (rightBK L f g = false) := by unfold Hid; rw [HR.out, hmb, decide_eq_false hall]; rfl
      clear HR hmb
      by_cases c1 : 0 ≤ f
      · by_cases c2 : f ≤ 1099511627776
        · by_cases c3 : 0 ≤ g
          · by_cases c4 : g < 4
            · exfalso; exact hall ⟨c1, c2, c3, by omega⟩
            · have d4 : decide (g < 4) = false := decide_eq_false c4
              clear hall
              go_wp2_with fail
              go_ret
              exact ⟨by rw [HF.out]; first | rfl | (exact ret_bool (by assumption)), HB.out⟩
          · have d3 : decide (0 ≤ g) = false := decide_eq_false c3
            clear hall
            go_wp2_with fail
            go_ret
            exact ⟨by rw [HF.out]; first | rfl | (exact ret_bool (by assumption)), HB.out⟩
        · have d2 : decide (f ≤ 1099511627776) = false := decide_eq_false c2
          clear hall
          go_wp2_with fail
          go_ret
          exact ⟨by rw [HF.out]; first | rfl | (exact ret_bool (by assumption)), HB.out⟩
      · have d1 : decide (0 ≤ f) = false := decide_eq_false c1
        clear hall
        go_wp2_with fail
        go_ret
        exact ⟨by rw [HF.out]; first | rfl | (exact ret_bool (by assumption)), HB.out⟩
end Go.Proofs.Ytbadjigfcncfcaa

/- The contract of code.Short: a number, short. -/
namespace Go.Proofs.Ytbadjigfcncfcaa
open Go.RowKit

/-- A number's bytes, short. -/
def sh (n : Nat) : List UInt8 := if n < 128 then [UInt8.ofNat n] else UInt8.ofNat (n % 128 + 128) :: sh (n / 128)
termination_by n
decreasing_by omega
theorem sh_lo {n : Nat} (h : n < 128) : sh n = [UInt8.ofNat n] := by rw [sh]; simp [h]
theorem sh_hi {n : Nat} (h : ¬ n < 128) : sh n = UInt8.ofNat (n % 128 + 128) :: sh (n / 128) := by rw [sh]; simp [h]
theorem bc_of {n : Nat} (h : n < 256) : bc (UInt8.ofNat n) = .int .u8 (n : Int) := by
  unfold bc
  have : (UInt8.ofNat n).toNat = n := by simp [UInt8.toNat_ofNat']; omega
  rw [this]
theorem sh_len (k : Nat) : ∀ n, n < 128 ^ (k + 1) → (sh n).length ≤ k + 1 := by
  induction k with
  | zero => intro n hn; rw [sh_lo (by simpa using hn)]; simp
  | succ k ih =>
    intro n hn
    by_cases h : n < 128
    · rw [sh_lo h]; simp
    · rw [sh_hi h]
      have := ih (n / 128) (by rw [Nat.div_lt_iff_lt_mul (by omega)]; rw [Nat.pow_succ] at hn; exact hn)
      simp; omega
theorem sh_len10 {n : Nat} (h : n < 18446744073709551616) : (sh n).length ≤ 10 := sh_len 9 n (Nat.lt_of_lt_of_le h (by decide))
theorem sh_pos (n : Nat) : 0 < (sh n).length := by
  by_cases h : n < 128
  · rw [sh_lo h]; simp
  · rw [sh_hi h]; simp

end Go.Proofs.Ytbadjigfcncfcaa

/- The contract of code.ReadShort. -/
namespace Go.Proofs.Ytbadjigfcncfcaa
open Go.RowKit

/-- What ReadShort tells of bytes, of which i were read, and made v. -/
def rsF : List UInt8 → Nat → Nat → Nat × Nat × Int
  | [], _, _ => (0, 0, 10)
  | x :: l, i, v =>
    if i = 9 ∧ 1 < x.toNat then (0, 0, 11)
    else if 128 ≤ x.toNat then rsF l (i + 1) (v + x.toNat % 128 * 128 ^ i)
    else if x.toNat = 0 ∧ 0 < i then (0, 0, 3) else (v + x.toNat % 128 * 128 ^ i, i + 1, 0)

/-- What holds at each jump to the fault. -/
def JRs (l : List UInt8) (w : World) (a' : Act) (w' : World) : Prop := w' = w ∧ ∃ (u0 u1 u2 u3 u4 u5 u7 u8 u9 u10 u11 u12 u13 u14 u15 u16 u17 u18 u19 u20 u21 u22 u23 u24 u25 u26 u27 u28 u29 u30 u31 u32 u33 u34 u35 u36 u37 u38 u39 u40 u41 u42 : Value), a' = { tmps := #[u0, u1, u2, u3, u4, u5, .int .i64 (rsF l 0 0).2.2, u7, u8, u9, u10, u11, u12, u13, u14, u15, u16, u17, u18, u19, u20, u21, u22, u23, u24, u25, u26, u27, u28, u29, u30, u31, u32, u33, u34, u35, u36, u37, u38, u39, u40, u41, u42], defers := [] } ∧ (rsF l 0 0).1 = 0 ∧ (rsF l 0 0).2.1 = 0
theorem JRs_of {l : List UInt8} {w : World} {E : Int} {u0 u1 u2 u3 u4 u5 u7 u8 u9 u10 u11 u12 u13 u14 u15 u16 u17 u18 u19 u20 u21 u22 u23 u24 u25 u26 u27 u28 u29 u30 u31 u32 u33 u34 u35 u36 u37 u38 u39 u40 u41 u42 : Value} (h : rsF l 0 0 = (0, 0, E)) : JRs l w { tmps := #[u0, u1, u2, u3, u4, u5, .int .i64 E, u7, u8, u9, u10, u11, u12, u13, u14, u15, u16, u17, u18, u19, u20, u21, u22, u23, u24, u25, u26, u27, u28, u29, u30, u31, u32, u33, u34, u35, u36, u37, u38, u39, u40, u41, u42], defers := [] } w := by
  refine ⟨rfl, u0, u1, u2, u3, u4, u5, u7, u8, u9, u10, u11, u12, u13, u14, u15, u16, u17, u18, u19, u20, u21, u22, u23, u24, u25, u26, u27, u28, u29, u30, u31, u32, u33, u34, u35, u36, u37, u38, u39, u40, u41, u42, ?_, by rw [h], by rw [h]⟩
  rw [h]
theorem jump_ret {l : Nat} {J : Act → World → Prop} {Q : Exit → Act → World → Prop} {a : Act} {w : World} : Exit.jump l J Q .ret a w = Q .ret a w := rfl
theorem rsF_cons (x : UInt8) (l : List UInt8) (i v : Nat) : rsF (x :: l) i v = if i = 9 ∧ 1 < x.toNat then (0, 0, 11) else if 128 ≤ x.toNat then rsF l (i + 1) (v + x.toNat % 128 * 128 ^ i) else if x.toNat = 0 ∧ 0 < i then (0, 0, 3) else (v + x.toNat % 128 * 128 ^ i, i + 1, 0) := rfl
theorem pow128 (k : Nat) (hk : k ≤ 9) : 128 ^ k ≤ 9223372036854775808 := by
  have : 128 ^ k ≤ 128 ^ 9 := Nat.pow_le_pow_right (by omega) hk
  exact Nat.le_trans this (by decide)
theorem pow2_128 (k : Nat) : (2 : Nat) ^ (7 * k) = 128 ^ k := by rw [Nat.pow_mul]
theorem short_fit (z k : Nat) (hk : k ≤ 9) (hz : z < 128) (h9 : k = 9 → z ≤ 1) : z * 128 ^ k ≤ 9223372036854775808 := by
  by_cases h : k = 9
  · subst h
    have := h9 rfl
    have : z * 128 ^ 9 ≤ 1 * 128 ^ 9 := Nat.mul_le_mul_right _ this
    exact Nat.le_trans this (by decide)
  · have h1 : z * 128 ^ k ≤ 128 * 128 ^ k := Nat.mul_le_mul_right _ (by omega)
    have h2 : 128 * 128 ^ k = 128 ^ (k + 1) := by rw [Nat.pow_succ, Nat.mul_comm]
    rw [h2] at h1
    exact Nat.le_trans h1 (pow128 (k + 1) (by omega))
theorem or_short (v y k : Nat) (hk : k ≤ 9) (hv : v < 128 ^ k) (h9 : k = 9 → y % 128 ≤ 1) : bits .or .u64 (v : Int) (IntKind.u64.wrap ((y : Int) % 128 * 2 ^ (7 * k))) = ((v + y % 128 * 128 ^ k : Nat) : Int) := by
  have hf := short_fit (y % 128) k hk (by omega) h9
  have hp := pow128 k hk
  have e : (y : Int) % 128 * 2 ^ (7 * k) = ((y % 128 * 128 ^ k : Nat) : Int) := by
    rw [← pow2_128]; push_cast; rfl
  rw [e, IntKind.wrap_u64]
  have e2 : ((y % 128 * 128 ^ k : Nat) : Int) % 18446744073709551616 = ((y % 128 * 128 ^ k : Nat) : Int) := by omega
  rw [e2, bits_or_u64_nat _ _ (by omega) (by omega), Nat.or_comm, nat_join (7 * k) _ _ (by rw [pow2_128]; exact Nat.mul_mod_left _ _) (by rw [pow2_128]; exact hv), Nat.add_comm]

end Go.Proofs.Ytbadjigfcncfcaa

/- The contract of code.Text: a text in order. -/
namespace Go.Proofs.Ytbadjigfcncfcaa
open Go.RowKit

/-- A text's bytes in order, ahead of its end. -/
def txb : List UInt8 → List UInt8
  | [] => []
  | x :: l => (if x.toNat = 0 then [x, 255] else [x]) ++ txb l
/-- A text's bytes in order. -/
def tx (l : List UInt8) : List UInt8 := txb l ++ [0, 1]
theorem txb_append (a b : List UInt8) : txb (a ++ b) = txb a ++ txb b := by
  induction a with
  | nil => rfl
  | cons x a ih => simp [txb, ih]
theorem txb_len (l : List UInt8) : (txb l).length ≤ 2 * l.length := by
  induction l with
  | nil => simp [txb]
  | cons x l ih => simp only [txb, List.length_append, List.length_cons]; split <;> simp <;> omega

theorem txb_snoc (l : List UInt8) (k : Nat) (h : k < l.length) : txb (l.take (k + 1)) = txb (l.take k) ++ (if l[k].toNat = 0 then [l[k], 255] else [l[k]]) := by
  rw [List.take_succ_eq_append_getElem h, txb_append]
  simp [txb]
set_option maxRecDepth 100000 in
set_option maxHeartbeats 1000000 in
theorem text_any (s : ByteArray) (hs : s.size ≤ 10000) (w : World) :
    Calls Try.prog 81 #[.string s] w fun e w' => ∃ v, e = .returned v ∧ w'.ownsRow w.heap.size 5 1 v (tx s.data.toList).length ((tx s.data.toList).map bc) ∧ Below w.heap.size w w' := by
  obtain ⟨i0, hi, hz0, hz1, hz2⟩ := info_parts info5
  have hsl : s.data.toList.length = s.size := Array.length_toList
  obtain ⟨w0, hr, hown0, hg0⟩ := run_make_own (P := Try.prog) w w.heap.size 57 5 i0 (.int .u8 0) 1 Try.underlying57 hi hz0 hz1 .i64 .i64 (s.size + 2) (by rw [hz2]; omega) (by unfold maxLen; omega) (Nat.le_refl _)
  have e2 : ((s.size + 2 : Nat) : Int) = (s.size : Int) + 2 := by omega
  rw [e2] at hr
  clear e2
  have HB0 : Hid (Below w.heap.size w w0) := (Below.refl _ _).grown hg0 (Nat.le_refl _) (fun k hk => by cases hk)
  have HO0 : Hid (w0.ownsRow w.heap.size 5 1 (.slice (some ⟨w.heap.size, 0, none⟩) 0 (s.size + 2)) (txb (s.data.toList.take 0)).length ((txb (s.data.toList.take 0)).map bc)) := hown0
  clear hown0 hg0
  go_enter Try.func81, Try.ntmps81
  go_wp2_with fail
  clear hr
  go_loopw [3, 11] (fun v i wr => ∃ k : Nat, k ≤ s.size ∧ i = .int .i64 (k : Int) ∧ wr.ownsRow w.heap.size 5 1 v (txb (s.data.toList.take k)).length ((txb (s.data.toList.take k)).map bc) ∧ Below w.heap.size w wr) (fun _ i _ => s.size - (intOf i).toNat)
  case atStart => exact ⟨0, by omega, rfl, HO0.out, HB0.out⟩
  case round =>
    obtain ⟨k, hk, rfl, hown, hbr⟩ := hrel
    have hlen := txb_len (s.data.toList.take k)
    have htk : (s.data.toList.take k).length ≤ k := List.length_take_le _ _
    have hsz := hbr.size
    by_cases hlt : k < s.size
    · have hsn := txb_snoc s.data.toList k (by omega)
      have hxe : s[k] = s.data.toList[k]'(by omega) := rfl
      rw [← hxe] at hsn
      have HSN : Hid _ := hsn
      have HHL : Hid (s.data.toList.length = s.size) := hsl
      clear hsn hxe hsl
      generalize hx : s[k] = x at *
      generalize s.data.toList.take k = L at *
      by_cases hx0 : x.toNat = 0
      · have HX : Hid (x.toNat = 0) := hx0
        have i5 : ((x.toNat : Int) == 0) = true := by simp [hx0]
        have i6 : bc x = .int .u8 0 := by unfold bc; rw [hx0]; rfl
        have HBC : Hid (bc x = .int .u8 0) := i6
        clear hx0 i6
        go_wp2_with (at_builtin; refine wpList_append_own _ rfl _ _ 57 rfl w.heap.size 5 i0 (.int .u8 0) 1 1 Try.underlying57 hi hz0 hz1 hz2 rfl (by decide) _ _ _ rfl (hown.alloc _) ⟨wr.heap.size, 0, none⟩ 1 1 [.int .u8 (x.toNat : Int)] rfl rfl news1 one1 (len_ok (by omega)).1 (len_ok (by omega)).2 (al_ok hsz) ?_)
        intro v' w1 hown' hgrow _
        have HO1 : Hid (w1.ownsRow w.heap.size 5 1 v' ((txb L).length + 1) ((txb L).map bc ++ [bc x])) := hown'
        have HB1 : Hid (Below w.heap.size w w1) := (hbr.alloc hbr.size _).grown hgrow (al_ok hsz) (own_block hown)
        have hown1 : w1.ownsRow w.heap.size 5 1 v' ((txb L).length + 1) ((txb L).map bc ++ [bc x]) := HO1.out
        have hsz1 := HB1.out.size
        clear hown hown' hgrow hbr hsz
        go_wp2_with (at_builtin; refine wpList_append_own _ rfl _ _ 57 rfl w.heap.size 5 i0 (.int .u8 0) 1 1 Try.underlying57 hi hz0 hz1 hz2 rfl (by decide) _ _ _ rfl (hown1.alloc _) ⟨w1.heap.size, 0, none⟩ 1 1 [.int .u8 255] rfl rfl news1 one1 (len_ok (by omega)).1 (len_ok (by omega)).2 (al_ok hsz1) ?_)
        intro v2 w2 hown2 hgrow2 _
        have HO2 : Hid (w2.ownsRow w.heap.size 5 1 v2 (txb (s.data.toList.take (k + 1))).length ((txb (s.data.toList.take (k + 1))).map bc)) := by
          rw [HSN.out, if_pos HX.out, List.map_append, List.length_append]
          have e : ((txb L).map bc ++ [x, 255].map bc) = (txb L).map bc ++ [bc x, .int .u8 255] := rfl
          have e2 : (txb L).length + [x, 255].length = (txb L).length + 1 + 1 := rfl
          rw [e, e2]
          exact hown2
        have HB2 : Hid (Below w.heap.size w w2) := (HB1.out.alloc HB1.out.size _).grown hgrow2 (al_ok hsz1) (own_block hown1)
        clear hown1 hown2 hgrow2 hsz1 HO1 HB1
        go_wp2_with fail
        go_roundw
        case rel => exact ⟨k + 1, by omega, by go_num, HO2.out, HB2.out⟩
        case measure => simp [intOf]; omega
      · have HX : Hid (¬ x.toNat = 0) := hx0
        have i5 : ((x.toNat : Int) == 0) = false := by simp; omega
        clear hx0
        go_wp2_with (at_builtin; refine wpList_append_own _ rfl _ _ 57 rfl w.heap.size 5 i0 (.int .u8 0) 1 1 Try.underlying57 hi hz0 hz1 hz2 rfl (by decide) _ _ _ rfl (hown.alloc _) ⟨wr.heap.size, 0, none⟩ 1 1 [.int .u8 (x.toNat : Int)] rfl rfl news1 one1 (len_ok (by omega)).1 (len_ok (by omega)).2 (al_ok hsz) ?_)
        intro v' w1 hown' hgrow _
        have HO2 : Hid (w1.ownsRow w.heap.size 5 1 v' (txb (s.data.toList.take (k + 1))).length ((txb (s.data.toList.take (k + 1))).map bc)) := by
          rw [HSN.out, if_neg HX.out, List.map_append, List.length_append]
          exact hown'
        have HB2 : Hid (Below w.heap.size w w1) := (hbr.alloc hbr.size _).grown hgrow (al_ok hsz) (own_block hown)
        clear hown hown' hgrow hbr hsz
        go_wp2_with fail
        go_roundw
        case rel => exact ⟨k + 1, by omega, by go_num, HO2.out, HB2.out⟩
        case measure => simp [intOf]; omega
    · have hke : k = s.size := by omega
      subst hke
      have HTK : Hid (s.data.toList.take s.size = s.data.toList) := List.take_of_length_le (by omega)
      clear hsl
      generalize s.data.toList.take s.size = L at *
      go_wp2_with (at_builtin; refine wpList_append_own _ rfl _ _ 57 rfl w.heap.size 5 i0 (.int .u8 0) 1 1 Try.underlying57 hi hz0 hz1 hz2 rfl (by decide) _ _ _ rfl (hown.alloc _) ⟨wr.heap.size, 0, none⟩ 2 2 [.int .u8 0, .int .u8 1] rfl rfl news2 one2 (len_ok (by omega)).1 (len_ok (by omega)).2 (al_ok hsz) ?_)
      intro v' w1 hown' hgrow _
      have HO2 : Hid (w1.ownsRow w.heap.size 5 1 v' (tx s.data.toList).length ((tx s.data.toList).map bc)) := by
        unfold tx
        rw [← HTK.out, List.map_append, List.length_append]
        exact hown'
      have HB2 : Hid (Below w.heap.size w w1) := (hbr.alloc hbr.size _).grown hgrow (al_ok hsz) (own_block hown)
      clear hown hown' hgrow hbr hsz
      go_wp2_with fail
      go_ret
      exact ⟨_, rfl, HO2.out, HB2.out⟩
end Go.Proofs.Ytbadjigfcncfcaa

/- The contract of code.ReadText. -/
namespace Go.Proofs.Ytbadjigfcncfcaa
open Go.RowKit

/-- What ReadText tells of bytes, of which i were read, and made acc: the text, how many, what is wrong. -/
def rtF : List UInt8 → List UInt8 → Nat → List UInt8 × Nat × Int
  | [], _, _ => ([], 0, 10)
  | [_], _, _ => ([], 0, 10)
  | x :: y :: l, acc, i =>
    if x.toNat = 0 then
      if y.toNat = 255 then rtF l (acc ++ [x]) (i + 2)
      else if y.toNat = 1 then (acc, i + 2, 0) else ([], 0, 3)
    else rtF (y :: l) (acc ++ [x]) (i + 1)
theorem rtF_cons2 (x y : UInt8) (l acc : List UInt8) (i : Nat) : rtF (x :: y :: l) acc i = if x.toNat = 0 then (if y.toNat = 255 then rtF l (acc ++ [x]) (i + 2) else if y.toNat = 1 then (acc, i + 2, 0) else ([], 0, 3)) else rtF (y :: l) (acc ++ [x]) (i + 1) := by rw [rtF]
theorem rtF_one (x : UInt8) (acc : List UInt8) (i : Nat) : rtF [x] acc i = ([], 0, 10) := by rw [rtF]
theorem drop2 (l : List UInt8) (k : Nat) (h : k + 1 < l.length) : l.drop k = l[k] :: l[k + 1] :: l.drop (k + 2) := by
  rw [List.drop_eq_getElem_cons (by omega), List.drop_eq_getElem_cons h]
theorem drop1 (l : List UInt8) (k : Nat) (h : k + 1 = l.length) : l.drop k = [l[k]] := by
  rw [List.drop_eq_getElem_cons (by omega), List.drop_eq_nil_of_le (by omega)]

/-- What holds at each jump to the fault. -/
def JRt (l : List UInt8) (w : World) (a' : Act) (w' : World) : Prop := Below w.heap.size w w' ∧ ∃ (E : Int) (u0 u1 u2 u3 u4 u5 u7 u8 u9 u10 u11 u12 u13 u14 u15 u16 u17 u18 u19 u20 u21 u22 u23 u24 u25 u26 u27 u28 u29 u30 u31 u32 u33 u34 u35 u36 u37 u38 u39 u40 u41 u42 u43 u44 u45 u46 u47 : Value), a' = { tmps := #[u0, u1, u2, u3, u4, u5, .int .i64 E, u7, u8, u9, u10, u11, u12, u13, u14, u15, u16, u17, u18, u19, u20, u21, u22, u23, u24, u25, u26, u27, u28, u29, u30, u31, u32, u33, u34, u35, u36, u37, u38, u39, u40, u41, u42, u43, u44, u45, u46, u47], defers := [] } ∧ rtF l [] 0 = ([], 0, E)
theorem JRt_of {l : List UInt8} {w w' : World} {E : Int} {u0 u1 u2 u3 u4 u5 u7 u8 u9 u10 u11 u12 u13 u14 u15 u16 u17 u18 u19 u20 u21 u22 u23 u24 u25 u26 u27 u28 u29 u30 u31 u32 u33 u34 u35 u36 u37 u38 u39 u40 u41 u42 u43 u44 u45 u46 u47 : Value} (hb : Below w.heap.size w w') (h : rtF l [] 0 = ([], 0, E)) : JRt l w { tmps := #[u0, u1, u2, u3, u4, u5, .int .i64 E, u7, u8, u9, u10, u11, u12, u13, u14, u15, u16, u17, u18, u19, u20, u21, u22, u23, u24, u25, u26, u27, u28, u29, u30, u31, u32, u33, u34, u35, u36, u37, u38, u39, u40, u41, u42, u43, u44, u45, u46, u47], defers := [] } w' :=
  ⟨hb, E, u0, u1, u2, u3, u4, u5, u7, u8, u9, u10, u11, u12, u13, u14, u15, u16, u17, u18, u19, u20, u21, u22, u23, u24, u25, u26, u27, u28, u29, u30, u31, u32, u33, u34, u35, u36, u37, u38, u39, u40, u41, u42, u43, u44, u45, u46, u47, rfl, h⟩

set_option maxRecDepth 100000 in
set_option maxHeartbeats 1000000 in
theorem readText_some (b off cap : Nat) (l : List UInt8) (h0 : 0 < l.length) (hl : l.length ≤ 10000) (w : World) (hbw : b < w.heap.size) (hc : ∀ j (h : j < l.length), w.cell? ⟨b, off + j, none⟩ = some (bc l[j])) :
    Calls Try.prog 84 #[.slice (some ⟨b, off, none⟩) l.length cap] w fun e w' => e = .returned (.tuple #[.string ⟨(rtF l [] 0).1.toArray⟩, .int .i64 (rtF l [] 0).2.1, .int .i64 (rtF l [] 0).2.2]) ∧ Below w.heap.size w w' := by
  obtain ⟨i0, hi, hz0, hz1, hz2⟩ := info_parts info5
  go_enter Try.func84, Try.ntmps84
  go_wp2_with fail
  refine wp_scope_jumps 0 (JRt l w) (fun _ _ => 0) rfl ?_ ?_
  · go_wp2_with fail
    go_loopw [5, 6, 7] (fun v e i wr => ∃ (k : Nat) (acc : List UInt8), k ≤ l.length ∧ e = .int .i64 10 ∧ i = .int .i64 (k : Int) ∧ acc.length ≤ k ∧ rtF (l.drop k) acc k = rtF l [] 0 ∧ wr.ownsRow w.heap.size 5 1 v acc.length (acc.map bc) ∧ Below w.heap.size w wr) (fun _ _ i _ => l.length - (intOf i).toNat)
    case atStart => exact ⟨0, [], by omega, rfl, rfl, by simp, rfl, World.ownsRow_nil _ _ _ _, Below.refl _ _⟩
    case round =>
      obtain ⟨k, acc, hk, rfl, rfl, hacc, hF, hown, hbr⟩ := hrel
      have hsz := hbr.size
      by_cases hlt : k < l.length
      · have hcell : wr.cell? ⟨b, off + k, none⟩ = some (bc l[k]) := (hbr.cell (p := ⟨b, off + k, none⟩) hbw).trans (hc k hlt)
        have hki : (k : Int) < (l.length : Int) := by omega
        by_cases hl1 : k + 1 < l.length
        · have hcell1 : wr.cell? ⟨b, off + (k + 1), none⟩ = some (bc l[k + 1]) := (hbr.cell (p := ⟨b, off + (k + 1), none⟩) hbw).trans (hc (k + 1) hl1)
          rw [drop2 l k hl1, rtF_cons2] at hF
          have HD1 : Hid (l[k + 1] :: l.drop (k + 2) = l.drop (k + 1)) := (List.drop_eq_getElem_cons hl1).symm
          generalize l[k] = x at *
          generalize l[k + 1] = y at *
          unfold bc at hcell hcell1
          have hki1 : (k : Int) + 1 < (l.length : Int) := by omega
          clear hc
          by_cases hx0 : x.toNat = 0
          · rw [if_pos hx0] at hF
            have g0 : ((x.toNat : Int) == 0) = true := by simp [hx0]
            have g1 : ((x.toNat : Int) != 0) = false := by simp [hx0]
            have HX : Hid (bc x = .int .u8 0) := by unfold Hid bc; rw [hx0]; rfl
            clear hx0
            by_cases hy : y.toNat = 255
            · rw [if_pos hy] at hF
              have HF : Hid _ := hF
              have g2 : ((y.toNat : Int) == 255) = true := by simp [hy]
              clear hy hF
              go_wp2_with (at_builtin; refine wpList_append_own _ rfl _ _ 57 rfl w.heap.size 5 i0 (.int .u8 0) 1 1 Try.underlying57 hi hz0 hz1 hz2 rfl (by decide) _ _ _ rfl (hown.alloc _) ⟨wr.heap.size, 0, none⟩ 1 1 [.int .u8 0] rfl rfl news1 one1 (len_ok (by omega)).1 (len_ok (by omega)).2 (al_ok hsz) ?_)
              intro v' w1 hown' hgrow _
              have HO2 : Hid (w1.ownsRow w.heap.size 5 1 v' (acc ++ [x]).length ((acc ++ [x]).map bc)) := by
                rw [List.map_append, List.length_append]
                simp only [List.map_cons, List.map_nil]
                rw [HX.out]
                exact hown'
              have HB2 : Hid (Below w.heap.size w w1) := (hbr.alloc hbr.size _).grown hgrow (al_ok hsz) (own_block hown)
              clear hown hown' hgrow hbr hsz hcell hcell1
              go_wp2_with fail
              go_roundw
              case rel => exact ⟨k + 2, acc ++ [x], by omega, rfl, by go_num, by simp; omega, HF.out, HO2.out, HB2.out⟩
              case measure => simp [intOf]; omega
            · rw [if_neg hy] at hF
              have g2 : ((y.toNat : Int) == 255) = false := by simp; omega
              clear hy
              by_cases hy1 : y.toNat = 1
              · rw [if_pos hy1] at hF
                have HF : Hid _ := hF.symm
                have g3 : ((y.toNat : Int) == 1) = true := by simp [hy1]
                have hcv := reads_text (reads_own hown)
                have HB : Hid (Below w.heap.size w wr) := hbr
                clear hy1 hF hown hbr
                go_wp2_with fail
                rw [jump_ret]
                go_ret3
                exact ⟨by rw [HF.out]; rfl, HB.out⟩
              · rw [if_neg hy1] at hF
                have HF : Hid _ := hF.symm
                have g3 : ((y.toNat : Int) == 1) = false := by simp; omega
                have HB : Hid (Below w.heap.size w wr) := hbr
                clear hy1 hF hown hbr
                go_wp2_with fail
                go_step3
                exact And.intro (a := 0 = 0) rfl (JRt_of HB.out HF.out)
          · rw [if_neg hx0, HD1.out] at hF
            have HF : Hid _ := hF
            have g0 : ((x.toNat : Int) == 0) = false := by simp; omega
            have g1 : ((x.toNat : Int) != 0) = true := by simp; omega
            clear hx0 hF
            go_wp2_with (at_builtin; refine wpList_append_own _ rfl _ _ 57 rfl w.heap.size 5 i0 (.int .u8 0) 1 1 Try.underlying57 hi hz0 hz1 hz2 rfl (by decide) _ _ _ rfl (hown.alloc _) ⟨wr.heap.size, 0, none⟩ 1 1 [.int .u8 (x.toNat : Int)] rfl rfl news1 one1 (len_ok (by omega)).1 (len_ok (by omega)).2 (al_ok hsz) ?_)
            intro v' w1 hown' hgrow _
            have HO2 : Hid (w1.ownsRow w.heap.size 5 1 v' (acc ++ [x]).length ((acc ++ [x]).map bc)) := by
              rw [List.map_append, List.length_append]
              exact hown'
            have HB2 : Hid (Below w.heap.size w w1) := (hbr.alloc hbr.size _).grown hgrow (al_ok hsz) (own_block hown)
            clear hown hown' hgrow hbr hsz hcell hcell1
            go_wp2_with fail
            go_roundw
            case rel => exact ⟨k + 1, acc ++ [x], by omega, rfl, by go_num, by simp; omega, HF.out, HO2.out, HB2.out⟩
            case measure => simp [intOf]; omega
        · have hl2 : k + 1 = l.length := by omega
          rw [drop1 l k hl2, rtF_one] at hF
          have HF : Hid _ := hF.symm
          have HDN : Hid (l.drop (k + 1) = []) := List.drop_eq_nil_of_le (by omega)
          generalize l[k] = x at *
          unfold bc at hcell
          clear hc hF
          have g5 : (k : Int) + 1 = (l.length : Int) := by omega
          by_cases hx0 : x.toNat = 0
          · have g0 : ((x.toNat : Int) == 0) = true := by simp [hx0]
            have g1 : ((x.toNat : Int) != 0) = false := by simp [hx0]
            have HB : Hid (Below w.heap.size w wr) := hbr
            clear hx0 hown hbr
            go_wp2_with fail
            go_step3
            exact And.intro (a := 0 = 0) rfl (JRt_of HB.out HF.out)
          · have g0 : ((x.toNat : Int) == 0) = false := by simp; omega
            have g1 : ((x.toNat : Int) != 0) = true := by simp; omega
            have HE : Hid (k + 1 = l.length) := hl2
            clear hx0 g5 hl2 hl1
            go_wp2_with (at_builtin; refine wpList_append_own _ rfl _ _ 57 rfl w.heap.size 5 i0 (.int .u8 0) 1 1 Try.underlying57 hi hz0 hz1 hz2 rfl (by decide) _ _ _ rfl (hown.alloc _) ⟨wr.heap.size, 0, none⟩ 1 1 [.int .u8 (x.toNat : Int)] rfl rfl news1 one1 (len_ok (by omega)).1 (len_ok (by omega)).2 (al_ok hsz) ?_)
            intro v' w1 hown' hgrow _
            have HO2 : Hid (w1.ownsRow w.heap.size 5 1 v' (acc ++ [x]).length ((acc ++ [x]).map bc)) := by
              rw [List.map_append, List.length_append]
              exact hown'
            have HB2 : Hid (Below w.heap.size w w1) := (hbr.alloc hbr.size _).grown hgrow (al_ok hsz) (own_block hown)
            clear hown hown' hgrow hbr hsz hcell
            go_wp2_with fail
            go_roundw
            case rel => exact ⟨k + 1, acc ++ [x], by omega, rfl, by go_num, by simp; omega, by rw [HDN.out, HF.out]; rfl, HO2.out, HB2.out⟩
            case measure => simp [intOf]; omega
      · have hke : k = l.length := by omega
        subst hke
        rw [List.drop_length] at hF
        have HF : Hid (rtF l [] 0 = ([], 0, 10)) := by unfold Hid; rw [← hF]; rfl
        have HB : Hid (Below w.heap.size w wr) := hbr
        clear hc hF hown hbr
        go_wp2_with fail
        go_step3
        go_wp2_with fail
        rw [jump_ret]
        go_ret3
        exact ⟨by rw [HF.out]; rfl, HB.out⟩
  · rintro a' w' ⟨hb, E, u0, u1, u2, u3, u4, u5, u7, u8, u9, u10, u11, u12, u13, u14, u15, u16, u17, u18, u19, u20, u21, u22, u23, u24, u25, u26, u27, u28, u29, u30, u31, u32, u33, u34, u35, u36, u37, u38, u39, u40, u41, u42, u43, u44, u45, u46, u47, rfl, e1⟩
    have E1 : Hid _ := e1
    have HB : Hid _ := hb
    clear e1 hb
    go_wp2_with fail
    rw [jump_ret]
    go_ret3
    exact ⟨by rw [E1.out]; rfl, HB.out⟩
set_option maxRecDepth 100000 in
set_option maxHeartbeats 1000000 in
theorem readText_none (a : Option Addr) (cap : Nat) (w : World) :
    Calls Try.prog 84 #[.slice a 0 cap] w fun e w' => e = .returned (.tuple #[.string ⟨#[]⟩, .int .i64 0, .int .i64 10]) ∧ Below w.heap.size w w' := by
  go_enter Try.func84, Try.ntmps84
  go_wp2_with fail
  go_step3
  go_wp2_with fail
  go_loop [6, 7] (fun e i => e = .int .i64 10 ∧ i = .int .i64 0) (fun _ _ => 0)
  case atStart => exact ⟨rfl, rfl⟩
  case round =>
    obtain ⟨rfl, rfl⟩ := hrel
    go_wp2_with fail
    go_step3
    go_wp2_with fail
    (try rw [Exit.noGoto_ret])
    go_ret3
    exact ⟨rfl, Below.refl _ _⟩
theorem readText_any (v : Value) (l : List UInt8) (hl : l.length ≤ 10000) (w : World) (h : Reads w v l) :
    Calls Try.prog 84 #[v] w fun e w' => e = .returned (.tuple #[.string ⟨(rtF l [] 0).1.toArray⟩, .int .i64 (rtF l [] 0).2.1, .int .i64 (rtF l [] 0).2.2]) ∧ Below w.heap.size w w' := by
  rcases h with ⟨rfl, a, cap, rfl, _⟩ | ⟨b, off, cap, rfl, h2, h3, h4, h5, h6⟩
  · exact readText_none a cap w
  · exact readText_some b off cap l h2 hl w h5 h6
end Go.Proofs.Ytbadjigfcncfcaa

/- The contract of word.Write: numbers as eight bytes each, the greatest first. -/
namespace Go.Proofs.Ytbadjigfcncfcaa
open Go.RowKit

/-- Byte i of eight, the greatest first. -/
def byteOf (x : Int) (i : Nat) : Int := x / 2 ^ (8 * (7 - i)) % 256
/-- The first k bytes of all numbers' bytes. -/
def bytesTo (zs : List Int) (k : Nat) : List Int := (List.range k).map fun j => byteOf (zs.getD (j / 8) 0) (j % 8)
theorem bytesTo_succ (zs : List Int) (k : Nat) : bytesTo zs (k + 1) = bytesTo zs k ++ [byteOf (zs.getD (k / 8) 0) (k % 8)] := by
  simp [bytesTo, List.range_succ]
theorem bytesTo_len (zs : List Int) (k : Nat) : (bytesTo zs k).length = k := by simp [bytesTo]
set_option maxRecDepth 100000 in
set_option maxHeartbeats 2000000 in
theorem wordWrite_any (b n : Nat) (zs : List Int) (hn : zs.length = n) (hn2 : n ≤ 1000) (hz : ∀ x ∈ zs, 0 ≤ x ∧ x < 18446744073709551616) (w : World) (hbw : b < w.heap.size)
    (hc : ∀ i, i < zs.length → w.cell? ⟨b, i, none⟩ = some (.int .u64 (zs.getD i 0)))
    (hmk : ∀ w, (Instr.makeSlice 57 (.int .i64 0) (.int .i64 (8 * (n : Int)))).run Try.prog w = .ok (.slice (some ⟨w.heap.size, 0, none⟩) 0 (8 * n)) (w.alloc (.cells (Array.replicate (8 * n) (.int .u8 0)) 5))) :
    Calls Try.prog 82 #[.slice (some ⟨b, 0, none⟩) n n] w fun e w' => ∃ v, e = .returned v ∧ w'.ownsRow w.heap.size 5 1 v (8 * n) ((bytesTo zs (8 * n)).map (Value.int .u8)) ∧ Below w.heap.size w w' := by
  obtain ⟨i0, hi, hz0, hz1, hz2⟩ := info_parts info5
  go_enter Try.func82, Try.ntmps82
  go_wp2_with fail
  have hown0 : (w.alloc (.cells (Array.replicate (8 * n) (.int .u8 0)) 5)).ownsRow w.heap.size 5 1 (.slice (some ⟨w.heap.size, 0, none⟩) 0 (8 * n)) 0 [] := by
    refine ⟨rfl, Or.inr ⟨w.heap.size, 8 * n, Array.replicate (8 * n) (.int .u8 0), rfl, Nat.le_refl _, ?_, Nat.zero_le _, ?_, ?_, ?_⟩⟩
    · show (w.heap.push _)[w.heap.size]? = _
      simp
    · unfold maxLen; omega
    · simp
    · simp
  clear hmk
  go_loopw [3, 13] (fun v i wr => ∃ k : Nat, k ≤ n ∧ i = .int .i64 k ∧ wr.ownsRow w.heap.size 5 1 v (8 * k) ((bytesTo zs (8 * k)).map (Value.int .u8)) ∧ Below w.heap.size w wr) (fun _ i _ => n - (intOf i).toNat)
  case atStart => exact ⟨0, Nat.zero_le _, rfl, hown0, (Below.refl _ _).alloc (by simp) _⟩
  case round =>
    obtain ⟨k, hk, rfl, hown, hbr⟩ := hrel
    clear hown0
    by_cases hlt : k < n
    · have hcell : wr.cell? ⟨b, k, none⟩ = some (.int .u64 (zs.getD k 0)) := (hbr.cell (p := ⟨b, k, none⟩) hbw).trans (hc k (by omega))
      have hzk := hz _ (getD_mem zs k (by omega))
      have HO : Hid _ := hown
      have HB : Hid _ := hbr
      have HE : Hid (zs.getD k 0 = zs.getD k 0) := rfl
      have hsz := hbr.size
      clear hown hbr hc
      generalize hx : zs.getD k 0 = x at *
      have HX : Hid (zs.getD k 0 = x) := hx
      clear hx
      go_wp2_with fail
      go_loopw [3, 17] (fun v i wq => ∃ m : Nat, m ≤ 8 ∧ i = .int .i64 m ∧ wq.ownsRow w.heap.size 5 1 v (8 * k + m) ((bytesTo zs (8 * k + m)).map (Value.int .u8)) ∧ Below w.heap.size w wq) (fun _ i _ => 8 - (intOf i).toNat)
      case atStart => exact ⟨0, by omega, rfl, HO.out, HB.out⟩
      case round =>
        obtain ⟨m, hm, rfl, hown, hbr⟩ := hrel
        clear HO HB
        by_cases hlm : m < 8
        · have hsz2 := hbr.size
          go_wp2_with (at_builtin; refine wpList_append_own _ rfl _ _ 57 rfl w.heap.size 5 i0 (.int .u8 0) 1 1 Try.underlying57 hi hz0 hz1 hz2 rfl (by decide) _ _ _ rfl (hown.alloc _) ⟨wr.heap.size, 0, none⟩ 1 1 [.int .u8 (x / 2 ^ (8 * (7 - m)) % 256)] rfl rfl ?c1 ?c2 ?c3 ?c4 ?c5 ?_)
          case c1 =>
            intro j u hj
            match j, hj with
            | 0, hj => simp at hj; subst hj; simp [Addr.add]
          case c2 => intro u hu; simp at hu; subst hu; rfl
          case c3 => unfold maxLen; omega
          case c4 => omega
          case c5 => simp; omega
          intro v' w1 hown' hgrow _
          have HO2 : Hid (w1.ownsRow w.heap.size 5 1 v' (8 * k + (m + 1)) ((bytesTo zs (8 * k + (m + 1))).map (Value.int .u8))) := by
            have e : bytesTo zs (8 * k + (m + 1)) = bytesTo zs (8 * k + m) ++ [byteOf x m] := by
              have := bytesTo_succ zs (8 * k + m)
              have e1 : (8 * k + m) / 8 = k := by omega
              have e2 : (8 * k + m) % 8 = m := by omega
              rw [e1, e2, HX.out] at this
              exact this
            rw [e, List.map_append]
            exact hown'
          have HB2 : Hid (Below w.heap.size w w1) := (hbr.alloc hbr.size _).grown hgrow (by simp; omega) (own_block hown)
          clear hown hown' hgrow hbr
          go_wp2_with fail
          go_roundw
          case rel => exact ⟨m + 1, by omega, by go_num, HO2.out, HB2.out⟩
          case measure => simp [intOf]; omega
        · have hm8 : m = 8 := by omega
          subst hm8
          have HO2 : Hid _ := hown
          have HB2 : Hid _ := hbr
          clear hown hbr
          go_wp2_with fail
          go_roundw
          case rel => exact ⟨k + 1, by omega, by go_num, HO2.out, HB2.out⟩
          case measure => simp [intOf]; omega
    · have hke : k = n := by omega
      subst hke
      have HO2 : Hid _ := hown
      have HB2 : Hid _ := hbr
      clear hown hbr
      go_wp2_with fail
      go_ret
      exact ⟨_, rfl, HO2.out, HB2.out⟩
end Go.Proofs.Ytbadjigfcncfcaa

/- The contract of wide.Write: sixteen bytes, the greatest first. -/
namespace Go.Proofs.Ytbadjigfcncfcaa
open Go.RowKit

theorem mk8 : ∀ w, (Instr.makeSlice 57 (.int .i64 0) (.int .i64 (8 * ((1 : Nat) : Int)))).run Try.prog w = .ok (.slice (some ⟨w.heap.size, 0, none⟩) 0 (8 * 1)) (w.alloc (.cells (Array.replicate (8 * 1) (.int .u8 0)) 5)) := fun _ => by kernel_rfl
theorem mk16 : ∀ w, (Instr.makeSlice 57 (.int .i64 0) (.int .i64 (8 * ((2 : Nat) : Int)))).run Try.prog w = .ok (.slice (some ⟨w.heap.size, 0, none⟩) 0 (8 * 2)) (w.alloc (.cells (Array.replicate (8 * 2) (.int .u8 0)) 5)) := fun _ => by kernel_rfl
/-- The eight bytes of one number, the sixteen of two. -/
def eight (x : Int) : List Int := bytesTo [x] 8
def sixteen (x y : Int) : List Int := bytesTo [x, y] 16
theorem eight_len (x : Int) : (eight x).length = 8 := bytesTo_len _ _
theorem sixteen_len (x y : Int) : (sixteen x y).length = 16 := bytesTo_len _ _
theorem word1 (b : Nat) (x : Int) (hx : 0 ≤ x ∧ x < 18446744073709551616) (w : World) (hbw : b < w.heap.size) (h0 : w.cell? ⟨b, 0, none⟩ = some (.int .u64 x)) :
    Calls Try.prog 82 #[.slice (some ⟨b, 0, none⟩) 1 1] w fun e w' => ∃ v, e = .returned v ∧ w'.ownsRow w.heap.size 5 1 v 8 ((eight x).map (Value.int .u8)) ∧ Below w.heap.size w w' :=
  wordWrite_any b 1 [x] rfl (by omega) (by intro z hz; simp at hz; subst hz; exact hx) w hbw (by
    intro i hi
    match i, hi with
    | 0, _ => simpa using h0) mk8
theorem word2 (b : Nat) (x y : Int) (hx : 0 ≤ x ∧ x < 18446744073709551616) (hy : 0 ≤ y ∧ y < 18446744073709551616) (w : World) (hbw : b < w.heap.size) (h0 : w.cell? ⟨b, 0, none⟩ = some (.int .u64 x)) (h1 : w.cell? ⟨b, 1, none⟩ = some (.int .u64 y)) :
    Calls Try.prog 82 #[.slice (some ⟨b, 0, none⟩) 2 2] w fun e w' => ∃ v, e = .returned v ∧ w'.ownsRow w.heap.size 5 1 v 16 ((sixteen x y).map (Value.int .u8)) ∧ Below w.heap.size w w' :=
  wordWrite_any b 2 [x, y] rfl (by omega) (by intro z hz; simp at hz; rcases hz with rfl | rfl <;> assumption) w hbw (by
    intro i hi
    match i, hi with
    | 0, _ => simpa using h0
    | 1, _ => simpa using h1) mk16

end Go.Proofs.Ytbadjigfcncfcaa

/- The contract of word.Read: the number that eight bytes tell. -/
namespace Go.Proofs.Ytbadjigfcncfcaa
open Go.RowKit

/-- The number that bytes tell, the greatest first. -/
def beval (l : List Int) : Int := l.foldl (fun n x => n * 256 + x) 0
theorem beval_snoc (l : List Int) (x : Int) : beval (l ++ [x]) = beval l * 256 + x := by simp [beval, List.foldl_append]
theorem beval_take (l : List Int) (k : Nat) (h : k < l.length) : beval (l.take (k + 1)) = beval (l.take k) * 256 + l.getD k 0 := by
  rw [take_snocI l k h, beval_snoc]
theorem beval_bd (l : List Int) (hl : ∀ x ∈ l, 0 ≤ x ∧ x ≤ 255) : ∀ k : Nat, 0 ≤ beval (l.take k) ∧ beval (l.take k) < 256 ^ k := by
  intro k
  induction k with
  | zero => simp [beval]
  | succ k ih =>
    by_cases h : k < l.length
    · rw [beval_take l k h]
      have hx := hl _ (getD_mem l k h)
      obtain ⟨i1, i2⟩ := ih
      have e : (256 : Int) ^ (k + 1) = 256 ^ k * 256 := Int.pow_succ ..
      rw [e]
      generalize (256 : Int) ^ k = q at *
      omega
    · have e : l.take (k + 1) = l.take k := by rw [List.take_of_length_le (by omega), List.take_of_length_le (by omega)]
      rw [e]
      have e2 : (256 : Int) ^ (k + 1) = 256 ^ k * 256 := Int.pow_succ ..
      rw [e2]
      generalize (256 : Int) ^ k = q at *
      omega
theorem or_byte (n x : Int) (n1 : 0 ≤ n) (n2 : n < 72057594037927936) (x1 : 0 ≤ x) (x2 : x ≤ 255) : bits .or .u64 (n * 256) x = n * 256 + x := by
  obtain ⟨a, rfl⟩ := Int.eq_ofNat_of_zero_le n1
  obtain ⟨b, rfl⟩ := Int.eq_ofNat_of_zero_le x1
  have e : (a : Int) * 256 = ((a * 256 : Nat) : Int) := by omega
  rw [e, bits_or_u64_nat _ _ (by omega) (by omega), nat_join 8 _ _ (by omega) (by omega)]
  omega

set_option maxRecDepth 100000 in
set_option maxHeartbeats 1000000 in
theorem wordRead_any (b off cap : Nat) (zs : List Int) (hl : zs.length = 8) (hz : ∀ x ∈ zs, 0 ≤ x ∧ x ≤ 255) (w : World)
    (hc : ∀ i, i < 8 → w.cell? ⟨b, off + i, none⟩ = some (.int .u8 (zs.getD i 0))) :
    Calls Try.prog 85 #[.slice (some ⟨b, off, none⟩) 8 cap] w fun e w' => e = .returned (.int .u64 (beval zs)) ∧ w' = w := by
  go_enter Try.func85, Try.ntmps85
  go_wp2_with fail
  go_loop [3, 8] (fun n i => ∃ k : Nat, k ≤ 8 ∧ i = .int .i64 k ∧ n = .int .u64 (beval (zs.take k))) (fun _ i => 8 - (intOf i).toNat)
  case atStart => exact ⟨0, by omega, rfl, rfl⟩
  case round =>
    obtain ⟨k, hk, rfl, rfl⟩ := hrel
    by_cases hlt : k < 8
    · have hcell := hc k hlt
      have hx := hz _ (getD_mem zs k (by omega))
      have HT : Hid _ := beval_take zs k (by omega)
      have hb := beval_bd zs hz k
      have hq : (256 : Int) ^ k ≤ 72057594037927936 := by
        have : (256 : Int) ^ k ≤ 256 ^ 7 := by
          have h7 : (256 : Nat) ^ k ≤ 256 ^ 7 := Nat.pow_le_pow_right (by omega) (by omega)
          exact_mod_cast h7
        simpa using this
      generalize zs.getD k 0 = x at *
      generalize beval (zs.take k) = n at *
      generalize (256 : Int) ^ k = q at *
      obtain ⟨n1, n2⟩ := hb
      obtain ⟨x1, x2⟩ := hx
      have n3 : n < 72057594037927936 := by omega
      have hor := or_byte n x n1 n3 x1 x2
      clear hc hq n2
      go_wp2_with fail
      go_round
      case rel => exact ⟨k + 1, by omega, by go_num, by rw [HT.out]⟩
      case measure => simp [intOf]; omega
    · have hke : k = 8 := by omega
      subst hke
      have e : zs.take 8 = zs := List.take_of_length_le (by omega)
      clear hc
      go_wp2_with fail
      go_ret
      exact ⟨rfl, rfl⟩
end Go.Proofs.Ytbadjigfcncfcaa

/- The contracts of code.Number and ReadNumber. -/
namespace Go.Proofs.Ytbadjigfcncfcaa
open Go.RowKit

theorem xor_top (a : Nat) (ha : a < 18446744073709551616) : a ^^^ 9223372036854775808 = (a + 9223372036854775808) % 18446744073709551616 := by
  have e1 : (9223372036854775808 : Nat) = 2 ^ 63 := by decide
  have e2 : (18446744073709551616 : Nat) = 2 ^ 64 := by decide
  rw [e1, e2, Nat.add_comm a]
  rw [e2] at ha
  apply Nat.eq_of_testBit_eq
  intro j
  rw [Nat.testBit_xor, Nat.testBit_mod_two_pow, Nat.testBit_two_pow]
  rcases Nat.lt_trichotomy j 63 with h | h | h
  · rw [Nat.testBit_two_pow_add_gt h]
    have h1 : decide (j < 64) = true := by simp; omega
    have h2 : decide (63 = j) = false := by simp; omega
    rw [h1, h2]; simp
  · subst h
    rw [Nat.testBit_two_pow_add_eq]; simp
  · have h1 : decide (j < 64) = false := by simp; omega
    have h2 : decide (63 = j) = false := by simp; omega
    have h3 : a.testBit j = false := Nat.testBit_lt_two_pow (Nat.lt_of_lt_of_le ha (Nat.pow_le_pow_right (by omega) (by omega)))
    rw [h1, h2, h3]; simp
theorem bits_top (v : Int) (h1 : -9223372036854775808 ≤ v) (h2 : v ≤ 9223372036854775807) : bits .xor .u64 (IntKind.u64.wrap v) 9223372036854775808 = v + 9223372036854775808 := by
  rw [IntKind.wrap_u64]
  obtain ⟨a, ha⟩ := Int.eq_ofNat_of_zero_le (show 0 ≤ v % 18446744073709551616 by omega)
  rw [ha]
  have e : (9223372036854775808 : Int) = ((9223372036854775808 : Nat) : Int) := rfl
  rw [e, bits_xor_u64_nat a _ (by omega) (by omega), xor_top a (by omega)]
  omega
theorem bits_topn (n : Int) (h1 : 0 ≤ n) (h2 : n ≤ 18446744073709551615) : IntKind.i64.wrap (bits .xor .u64 n 9223372036854775808) = n - 9223372036854775808 := by
  obtain ⟨a, ha⟩ := Int.eq_ofNat_of_zero_le h1
  subst ha
  have e : (9223372036854775808 : Int) = ((9223372036854775808 : Nat) : Int) := rfl
  rw [e, bits_xor_u64_nat a _ (by omega) (by omega), xor_top a (by omega), IntKind.wrap_i64]
  omega

/-- The eight bytes of a number in order. -/
def nb (v : Int) : List UInt8 := (eight (v + 9223372036854775808)).map fun z => UInt8.ofNat z.toNat
theorem nb_len (v : Int) : (nb v).length = 8 := by simp [nb, eight_len]
theorem byteOf_bd (x : Int) (i : Nat) : 0 ≤ byteOf x i ∧ byteOf x i ≤ 255 := by unfold byteOf; omega
theorem nb_cells (v : Int) : (eight (v + 9223372036854775808)).map (Value.int .u8) = (nb v).map bc := by
  unfold nb
  rw [List.map_map]
  apply List.map_congr_left
  intro z hz
  have hb : 0 ≤ z ∧ z ≤ 255 := by
    unfold eight bytesTo at hz
    obtain ⟨j, _, rfl⟩ := List.mem_map.1 hz
    exact byteOf_bd _ _
  obtain ⟨a, rfl⟩ := Int.eq_ofNat_of_zero_le hb.1
  show Value.int .u8 (a : Int) = bc (UInt8.ofNat a)
  rw [bc_of (by omega)]

set_option maxRecDepth 100000 in
set_option maxHeartbeats 1000000 in
theorem number_any (v : Int) (h1 : -9223372036854775808 ≤ v) (h2 : v ≤ 9223372036854775807) (w : World) :
    Calls Try.prog 69 #[.int .i64 v] w fun e w' => ∃ x, e = .returned x ∧ w'.ownsRow w.heap.size 5 1 x 8 ((nb v).map bc) ∧ Below w.heap.size w w' := by
  have ht := bits_top v h1 h2
  have HB : Hid (0 ≤ v + 9223372036854775808 ∧ v + 9223372036854775808 < 18446744073709551616) := by unfold Hid; omega
  clear h1 h2
  go_enter Try.func69, Try.ntmps69
  go_wp2_with fail
  refine (word1 _ (v + 9223372036854775808) HB.out _ (by simp) (by simp [go_sem])).mono ?_
  rintro e w1 ⟨x, rfl, hown, hb⟩
  rw [nb_cells] at hown
  have HO : Hid (w1.ownsRow w.heap.size 5 1 x 8 ((nb v).map bc)) := own_mono hown (by simp)
  have HBL : Hid (Below w.heap.size w w1) := ((Below.refl _ _).alloc (Nat.le_refl _) _).trans (hb.mono (by simp))
  clear hown hb
  go_wp2_with fail
  go_ret
  exact ⟨_, rfl, HO.out, HBL.out⟩

/-- What ReadNumber tells. -/
def rnF (l : List UInt8) : Int × Int × Int := if l.length < 8 then (0, 0, 10) else (beval ((l.take 8).map fun x => (x.toNat : Int)) - 9223372036854775808, 8, 0)
theorem beval8 (zs : List Int) (hl : zs.length = 8) (hz : ∀ x ∈ zs, 0 ≤ x ∧ x ≤ 255) : 0 ≤ beval zs ∧ beval zs ≤ 18446744073709551615 := by
  have h := beval_bd zs hz 8
  rw [List.take_of_length_le (by omega)] at h
  have e : (256 : Int) ^ 8 = 18446744073709551616 := by decide
  rw [e] at h
  omega
set_option maxRecDepth 100000 in
set_option maxHeartbeats 1000000 in
theorem readNumber_any (v : Value) (l : List UInt8) (w : World) (h : Reads w v l) :
    Calls Try.prog 74 #[v] w fun e w' => e = .returned (.tuple #[.int .i64 (rnF l).1, .int .i64 (rnF l).2.1, .int .i64 (rnF l).2.2]) ∧ Below w.heap.size w w' := by
  by_cases h8 : l.length < 8
  · have e : rnF l = (0, 0, 10) := by unfold rnF; rw [if_pos h8]
    rw [e]
    obtain ⟨a, cap, rfl, _⟩ := h.form
    have i1 : (l.length : Int) < 8 := by omega
    clear h e
    go_enter Try.func74, Try.ntmps74
    go_wp2_with fail
    go_ret3
    exact ⟨rfl, Below.refl _ _⟩
  · have e : rnF l = (beval ((l.take 8).map fun x => (x.toNat : Int)) - 9223372036854775808, 8, 0) := by unfold rnF; rw [if_neg h8]
    rw [e]
    rcases h with ⟨rfl, a, cap, rfl, _⟩ | ⟨b, off, cap, rfl, g2, g3, g4, g5, g6⟩
    · simp at h8
    have hlen : ((l.take 8).map fun x => (x.toNat : Int)).length = 8 := by simp; omega
    have hz : ∀ x ∈ ((l.take 8).map fun x => (x.toNat : Int)), 0 ≤ x ∧ x ≤ 255 := by
      intro x hx
      obtain ⟨y, _, rfl⟩ := List.mem_map.1 hx
      have := UInt8.toNat_lt y
      omega
    have hcc : ∀ i, i < 8 → w.cell? ⟨b, off + i, none⟩ = some (.int .u8 (((l.take 8).map fun x => (x.toNat : Int)).getD i 0)) := by
      intro i hi
      rw [g6 i (by omega)]
      unfold bc
      have e : ((l.take 8).map fun x => (x.toNat : Int)).getD i 0 = (l[i]'(by omega)).toNat := by
        have hl' : i < l.length := by omega
        simp [hi, List.getElem?_eq_getElem hl']
      rw [e]
    have hbe := beval8 _ hlen hz
    have ht := bits_topn _ hbe.1 hbe.2
    have HR : Hid (∀ cap w', w'.cell? = w.cell? → Calls Try.prog 85 #[.slice (some ⟨b, off, none⟩) 8 cap] w' fun e w2 => e = .returned (.int .u64 (beval ((l.take 8).map fun x => (x.toNat : Int)))) ∧ w2 = w') := by
      intro cap w' hw'
      exact wordRead_any b off cap _ hlen hz w' (by intro i hi; rw [hw']; exact hcc i hi)
    clear e hcc hz hlen hbe
    generalize beval ((l.take 8).map fun x => (x.toNat : Int)) = n at *
    have i1 : ¬ (l.length : Int) < 8 := by omega
    have i2 : (8 : Int) ≤ (cap : Int) := by omega
    have i3 : 8 ≤ cap := by omega
    clear g6 h8
    go_enter Try.func74, Try.ntmps74
    go_wp2_with fail
    refine (HR.out _ _ rfl).mono ?_
    rintro e w1 ⟨rfl, hw1⟩
    subst w1
    go_wp2_with fail
    go_ret3
    exact ⟨rfl, Below.refl _ _⟩
end Go.Proofs.Ytbadjigfcncfcaa

/- What the fixed calls of layer 4's 'alive' come to: true. -/
namespace Go.Proofs.Ytbadjigfcncfcaa
open Go.RowKit

end Go.Proofs.Ytbadjigfcncfcaa

/- Plain words on what is read of bytes: no program in sight. -/
namespace Go.Proofs.Ytbadjigfcncfcaa
open Go.RowKit

theorem u8_of {x : UInt8} {n : Nat} (h : x.toNat = n) : UInt8.ofNat n = x := by rw [← h]; exact UInt8.ofNat_toNat ..
/-- What ReadShort reads, written again, stands there. -/
theorem rsF_ok (l : List UInt8) : ∀ i v V N, rsF l i v = (V, N, 0) → i ≤ 9 → v < 128 ^ i →
    ∃ u c, N = i + c ∧ 1 ≤ c ∧ c ≤ l.length ∧ V = v + 128 ^ i * u ∧ sh u = l.take c ∧ (0 < i → 0 < u) ∧ V < 18446744073709551616 := by
  induction l with
  | nil => intro i v V N h _ _; simp [rsF] at h
  | cons x l ih =>
    intro i v V N h hi hv
    rw [rsF_cons] at h
    have hx : x.toNat < 256 := UInt8.toNat_lt x
    by_cases h9 : i = 9 ∧ 1 < x.toNat
    · rw [if_pos h9] at h; simp at h
    · rw [if_neg h9] at h
      by_cases h128 : 128 ≤ x.toNat
      · rw [if_pos h128] at h
        have hi8 : i ≤ 8 := by omega
        have hp : 128 ^ (i + 1) = 128 * 128 ^ i := by rw [Nat.pow_succ, Nat.mul_comm]
        obtain ⟨u, c, h1, h2, h3, h4, h5, h6, h7⟩ := ih (i + 1) _ V N h (by omega) (by
          have h2 : x.toNat % 128 * 128 ^ i ≤ 127 * 128 ^ i := Nat.mul_le_mul_right _ (by omega)
          generalize 128 ^ i = q at *
          omega)
        have hu := h6 (by omega)
        refine ⟨x.toNat % 128 + 128 * u, c + 1, by omega, by omega, by simp; omega, ?_, ?_, fun _ => by omega, h7⟩
        · rw [h4, hp, Nat.mul_add, Nat.mul_comm (x.toNat % 128)]
          have : 128 ^ i * (128 * u) = 128 * 128 ^ i * u := by rw [← Nat.mul_assoc, Nat.mul_comm (128 ^ i) 128]
          omega
        · rw [sh_hi (by omega), List.take_succ_cons]
          have e1 : (x.toNat % 128 + 128 * u) % 128 + 128 = x.toNat := by omega
          have e2 : (x.toNat % 128 + 128 * u) / 128 = u := by omega
          rw [e1, e2, h5, u8_of rfl]
      · rw [if_neg h128] at h
        by_cases h00 : x.toNat = 0 ∧ 0 < i
        · rw [if_pos h00] at h; simp at h
        · rw [if_neg h00] at h
          simp only [Prod.mk.injEq] at h
          obtain ⟨rfl, rfl, _⟩ := h
          have em : x.toNat % 128 = x.toNat := by omega
          have hf := short_fit x.toNat i hi (by omega) (fun h => by omega)
          have hp := pow128 i hi
          rw [em]
          refine ⟨x.toNat, 1, rfl, by omega, by simp, by rw [Nat.mul_comm], ?_, fun h => by omega, by omega⟩
          rw [sh_lo (by omega), u8_of rfl]; rfl
theorem rsF_bad (l : List UInt8) : ∀ i v, (rsF l i v).2.2 ≠ 0 → (rsF l i v).1 = 0 ∧ (rsF l i v).2.1 = 0 := by
  induction l with
  | nil => intro i v _; exact ⟨rfl, rfl⟩
  | cons x l ih =>
    intro i v h
    rw [rsF_cons] at h ⊢
    split
    · exact ⟨rfl, rfl⟩
    · rename_i h1
      rw [if_neg h1] at h
      split
      · rename_i h2
        rw [if_pos h2] at h
        exact ih _ _ h
      · rename_i h2
        rw [if_neg h2] at h
        split
        · exact ⟨rfl, rfl⟩
        · rename_i h3
          rw [if_neg h3] at h
          exact absurd rfl h
/-- What ReadText reads, written again, stands there. -/
theorem rtF_ok (n : Nat) : ∀ (l acc : List UInt8) i S N, l.length ≤ n → rtF l acc i = (S, N, 0) →
    ∃ s c, N = i + c ∧ 2 ≤ c ∧ c ≤ l.length ∧ S = acc ++ s ∧ tx s = l.take c := by
  induction n with
  | zero =>
    intro l acc i S N hl h
    have : l = [] := List.length_eq_zero_iff.1 (by omega)
    subst this; simp [rtF] at h
  | succ n ih =>
    intro l acc i S N hl h
    match l, hl, h with
    | [], _, h => simp [rtF] at h
    | [x], _, h => rw [rtF_one] at h; simp at h
    | x :: y :: l, hl, h =>
      rw [rtF_cons2] at h
      simp at hl
      by_cases hx : x.toNat = 0
      · rw [if_pos hx] at h
        by_cases hy : y.toNat = 255
        · rw [if_pos hy] at h
          obtain ⟨s, c, h1, h2, h3, h4, h5⟩ := ih l (acc ++ [x]) (i + 2) S N (by omega) h
          refine ⟨x :: s, c + 2, by omega, by omega, by simp; omega, by rw [h4]; simp, ?_⟩
          unfold tx at *
          have ey : y = 255 := by rw [← u8_of hy]; rfl
          have e1 : txb (x :: s) = [x, 255] ++ txb s := by simp [txb, hx]
          rw [e1, List.append_assoc, h5, ← ey]; rfl
        · rw [if_neg hy] at h
          by_cases hy1 : y.toNat = 1
          · rw [if_pos hy1] at h
            simp only [Prod.mk.injEq] at h
            obtain ⟨rfl, rfl, _⟩ := h
            have ex : x = 0 := by rw [← u8_of hx]; rfl
            have ey : y = 1 := by rw [← u8_of hy1]; rfl
            exact ⟨[], 2, rfl, by omega, by simp, by simp, by rw [ex, ey]; rfl⟩
          · rw [if_neg hy1] at h; simp at h
      · rw [if_neg hx] at h
        obtain ⟨s, c, h1, h2, h3, h4, h5⟩ := ih (y :: l) (acc ++ [x]) (i + 1) S N (by simp; omega) h
        refine ⟨x :: s, c + 1, by omega, by omega, by simp at h3 ⊢; omega, by rw [h4]; simp, ?_⟩
        unfold tx at *
        have e1 : txb (x :: s) = [x] ++ txb s := by simp [txb, hx]
        rw [e1, List.append_assoc, h5]; rfl
theorem rtF_bad (n : Nat) : ∀ (l acc : List UInt8) i, l.length ≤ n → (rtF l acc i).2.2 ≠ 0 → (rtF l acc i).1 = [] ∧ (rtF l acc i).2.1 = 0 := by
  induction n with
  | zero =>
    intro l acc i hl _
    have : l = [] := List.length_eq_zero_iff.1 (by omega)
    subst this; exact ⟨rfl, rfl⟩
  | succ n ih =>
    intro l acc i hl h
    match l, hl, h with
    | [], _, _ => exact ⟨rfl, rfl⟩
    | [x], _, _ => exact ⟨rfl, rfl⟩
    | x :: y :: l, hl, h =>
      rw [rtF_cons2] at h ⊢
      simp at hl
      by_cases hx : x.toNat = 0
      · rw [if_pos hx] at h ⊢
        by_cases hy : y.toNat = 255
        · rw [if_pos hy] at h ⊢
          exact ih _ _ _ (by omega) h
        · rw [if_neg hy] at h ⊢
          by_cases hy1 : y.toNat = 1
          · rw [if_pos hy1] at h; exact absurd rfl h
          · rw [if_neg hy1]; exact ⟨rfl, rfl⟩
      · rw [if_neg hx] at h ⊢
        exact ih _ _ _ (by simp; omega) h
end Go.Proofs.Ytbadjigfcncfcaa

/- Plain words on the order of bytes: no program in sight. -/
namespace Go.Proofs.Ytbadjigfcncfcaa
open Go.RowKit

theorem txb_cons0 {x : UInt8} (l : List UInt8) (h : x.toNat = 0) : txb (x :: l) = 0 :: 255 :: txb l := by
  have e : x = 0 := by rw [← u8_of h]; rfl
  simp [txb, e]
theorem txb_cons1 {x : UInt8} (l : List UInt8) (h : ¬ x.toNat = 0) : txb (x :: l) = x :: txb l := by simp [txb, h]
theorem u8_lt (x y : UInt8) : (x < y) ↔ x.toNat < y.toNat := UInt8.lt_iff_toNat_lt
theorem u8_eq {x y : UInt8} (h : x.toNat = y.toNat) : x = y := UInt8.toNat_inj.1 h
theorem less_cons (x y : UInt8) (l m : List UInt8) : Op.bytesLess (x :: l) (y :: m) = (decide (x < y) || (x == y && Op.bytesLess l m)) := rfl
theorem less_lt {x y : UInt8} (l m : List UInt8) (h : x.toNat < y.toNat) : Op.bytesLess (x :: l) (y :: m) = true := by
  rw [less_cons, decide_eq_true ((u8_lt x y).2 h)]; rfl
theorem less_gt {x y : UInt8} (l m : List UInt8) (h : y.toNat < x.toNat) : Op.bytesLess (x :: l) (y :: m) = false := by
  have h1 : ¬ x < y := fun hh => by have := (u8_lt x y).1 hh; omega
  have h2 : (x == y) = false := by
    apply beq_eq_false_iff_ne.2
    rintro rfl; omega
  rw [less_cons, decide_eq_false h1, h2]; rfl
theorem less_same (x : UInt8) (l m : List UInt8) : Op.bytesLess (x :: l) (x :: m) = Op.bytesLess l m := by
  have h1 : ¬ x < x := fun hh => by have := (u8_lt x x).1 hh; omega
  rw [less_cons, decide_eq_false h1]; simp

/-- Of texts in order, whatever stands behind, the bytes stand as they do. -/
theorem tx_less (s : List UInt8) : ∀ t A B, Op.bytesLess (txb s ++ 0 :: 1 :: A) (txb t ++ 0 :: 1 :: B) = if s = t then Op.bytesLess A B else Op.bytesLess s t := by
  induction s with
  | nil =>
    intro t A B
    cases t with
    | nil => simp [txb, less_same]
    | cons y t =>
      rw [if_neg (by simp)]
      have e : Op.bytesLess [] (y :: t) = true := rfl
      rw [e]
      by_cases hy : y.toNat = 0
      · rw [txb_cons0 t hy]
        show Op.bytesLess (0 :: 1 :: A) (0 :: 255 :: (txb t ++ 0 :: 1 :: B)) = true
        rw [less_same]
        exact less_lt _ _ (by decide)
      · rw [txb_cons1 t hy]
        exact less_lt _ _ (by show 0 < y.toNat; omega)
  | cons x s ih =>
    intro t A B
    cases t with
    | nil =>
      rw [if_neg (by simp)]
      have e : Op.bytesLess (x :: s) [] = false := rfl
      rw [e]
      by_cases hx : x.toNat = 0
      · rw [txb_cons0 s hx]
        show Op.bytesLess (0 :: 255 :: (txb s ++ 0 :: 1 :: A)) (0 :: 1 :: B) = false
        rw [less_same]
        exact less_gt _ _ (by decide)
      · rw [txb_cons1 s hx]
        exact less_gt _ _ (by show 0 < x.toNat; omega)
    | cons y t =>
      rcases Nat.lt_trichotomy x.toNat y.toNat with h | h | h
      · have hne : x :: s ≠ y :: t := by rintro hh; simp at hh; rw [hh.1] at h; omega
        rw [if_neg hne, less_lt s t h]
        by_cases hx : x.toNat = 0
        · rw [txb_cons0 s hx, txb_cons1 t (by omega)]
          exact less_lt _ _ (by show 0 < y.toNat; omega)
        · rw [txb_cons1 s hx, txb_cons1 t (by omega)]
          exact less_lt _ _ h
      · have e := u8_eq h
        subst e
        have e2 : (x :: s = x :: t) ↔ s = t := by simp
        simp only [e2, less_same]
        rw [← ih t A B]
        by_cases hx : x.toNat = 0
        · rw [txb_cons0 s hx, txb_cons0 t hx]
          show Op.bytesLess (0 :: 255 :: (txb s ++ 0 :: 1 :: A)) (0 :: 255 :: (txb t ++ 0 :: 1 :: B)) = _
          rw [less_same, less_same]
        · rw [txb_cons1 s hx, txb_cons1 t hx]
          show Op.bytesLess (x :: (txb s ++ 0 :: 1 :: A)) (x :: (txb t ++ 0 :: 1 :: B)) = _
          rw [less_same]
      · have hne : x :: s ≠ y :: t := by rintro hh; simp at hh; rw [hh.1] at h; omega
        rw [if_neg hne, less_gt s t h]
        by_cases hy : y.toNat = 0
        · rw [txb_cons0 t hy, txb_cons1 s (by omega)]
          exact less_gt _ _ (by show 0 < x.toNat; omega)
        · rw [txb_cons1 t hy, txb_cons1 s (by omega)]
          exact less_gt _ _ h
/-- Texts in order, whatever stands behind, are told from each other. -/
theorem tx_inj (s : List UInt8) : ∀ t A B, txb s ++ 0 :: 1 :: A = txb t ++ 0 :: 1 :: B → s = t ∧ A = B := by
  induction s with
  | nil =>
    intro t A B h
    cases t with
    | nil => simp [txb] at h; exact ⟨rfl, h⟩
    | cons y t =>
      exfalso
      by_cases hy : y.toNat = 0
      · rw [txb_cons0 t hy] at h
        have h2 := (List.cons.inj (List.cons.inj h).2).1
        exact absurd h2 (by decide)
      · rw [txb_cons1 t hy] at h
        have h2 := (List.cons.inj h).1
        rw [← h2] at hy
        exact hy rfl
  | cons x s ih =>
    intro t A B h
    cases t with
    | nil =>
      exfalso
      by_cases hx : x.toNat = 0
      · rw [txb_cons0 s hx] at h
        have h2 := (List.cons.inj (List.cons.inj h).2).1
        exact absurd h2 (by decide)
      · rw [txb_cons1 s hx] at h
        have h2 := (List.cons.inj h).1
        rw [h2] at hx
        exact hx rfl
    | cons y t =>
      by_cases hx : x.toNat = 0
      · by_cases hy : y.toNat = 0
        · rw [txb_cons0 s hx, txb_cons0 t hy] at h
          have h2 := ih t A B (List.cons.inj (List.cons.inj h).2).2
          exact ⟨by rw [u8_eq (hx.trans hy.symm), h2.1], h2.2⟩
        · exfalso
          rw [txb_cons0 s hx, txb_cons1 t hy] at h
          have h2 := (List.cons.inj h).1
          rw [← h2] at hy; exact hy rfl
      · by_cases hy : y.toNat = 0
        · exfalso
          rw [txb_cons1 s hx, txb_cons0 t hy] at h
          have h2 := (List.cons.inj h).1
          rw [h2] at hx; exact hx rfl
        · rw [txb_cons1 s hx, txb_cons1 t hy] at h
          obtain ⟨h1, h2⟩ := List.cons.inj h
          have h3 := ih t A B h2
          exact ⟨by rw [h1, h3.1], h3.2⟩
/-- The value of bytes, the greatest first. -/
def bv : List UInt8 → Nat
  | [] => 0
  | x :: l => x.toNat * 256 ^ l.length + bv l
theorem bv_lt (l : List UInt8) : bv l < 256 ^ l.length := by
  induction l with
  | nil => simp [bv]
  | cons x l ih =>
    have hx := UInt8.toNat_lt x
    have h1 : x.toNat * 256 ^ l.length ≤ 255 * 256 ^ l.length := Nat.mul_le_mul_right _ (by omega)
    have h2 : 256 ^ (l.length + 1) = 256 * 256 ^ l.length := by rw [Nat.pow_succ, Nat.mul_comm]
    simp only [bv, List.length_cons]
    rw [h2]
    generalize 256 ^ l.length = q at *
    omega
theorem less_bv (l : List UInt8) : ∀ m, l.length = m.length → Op.bytesLess l m = decide (bv l < bv m) := by
  induction l with
  | nil => intro m h; cases m with
    | nil => simp [Op.bytesLess, bv]
    | cons y m => simp at h
  | cons x l ih =>
    intro m h
    cases m with
    | nil => simp at h
    | cons y m =>
      simp at h
      have b1 := bv_lt l
      have b2 := bv_lt m
      rw [h] at b1
      have e1 : bv (x :: l) = x.toNat * 256 ^ m.length + bv l := by simp only [bv]; rw [h]
      have e2 : bv (y :: m) = y.toNat * 256 ^ m.length + bv m := rfl
      rw [e1, e2]
      rcases Nat.lt_trichotomy x.toNat y.toNat with g | g | g
      · rw [less_lt l m g]
        have : (x.toNat + 1) * 256 ^ m.length ≤ y.toNat * 256 ^ m.length := Nat.mul_le_mul_right _ g
        rw [Nat.add_mul, Nat.one_mul] at this
        symm; apply decide_eq_true; omega
      · have e := u8_eq g
        subst e
        rw [less_same, ih m h]
        apply decide_eq_decide.2; omega
      · rw [less_gt l m g]
        have : (y.toNat + 1) * 256 ^ m.length ≤ x.toNat * 256 ^ m.length := Nat.mul_le_mul_right _ g
        rw [Nat.add_mul, Nat.one_mul] at this
        symm; apply decide_eq_false; omega
theorem bv_eq (l : List UInt8) : ∀ m, l.length = m.length → bv l = bv m → l = m := by
  induction l with
  | nil => intro m h _; cases m with
    | nil => rfl
    | cons y m => simp at h
  | cons x l ih =>
    intro m h hb
    cases m with
    | nil => simp at h
    | cons y m =>
      simp at h
      have b1 := bv_lt l
      have b2 := bv_lt m
      simp only [bv] at hb
      rw [h] at hb b1
      rcases Nat.lt_trichotomy x.toNat y.toNat with g | g | g
      · exfalso
        have : (x.toNat + 1) * 256 ^ m.length ≤ y.toNat * 256 ^ m.length := Nat.mul_le_mul_right _ g
        rw [Nat.add_mul, Nat.one_mul] at this
        omega
      · have e := u8_eq g
        subst e
        rw [ih m h (by omega)]
      · exfalso
        have : (y.toNat + 1) * 256 ^ m.length ≤ x.toNat * 256 ^ m.length := Nat.mul_le_mul_right _ g
        rw [Nat.add_mul, Nat.one_mul] at this
        omega
theorem bv_nb (v : Int) (h1 : -9223372036854775808 ≤ v) (h2 : v ≤ 9223372036854775807) : (bv (nb v) : Int) = v + 9223372036854775808 := by
  obtain ⟨n, hn⟩ := Int.eq_ofNat_of_zero_le (show 0 ≤ v + 9223372036854775808 by omega)
  have hb : n < 18446744073709551616 := by omega
  unfold nb
  rw [hn]
  have e : eight (n : Int) = [((n / 72057594037927936 % 256 : Nat) : Int), ((n / 281474976710656 % 256 : Nat) : Int), ((n / 1099511627776 % 256 : Nat) : Int), ((n / 4294967296 % 256 : Nat) : Int), ((n / 16777216 % 256 : Nat) : Int), ((n / 65536 % 256 : Nat) : Int), ((n / 256 % 256 : Nat) : Int), ((n % 256 : Nat) : Int)] := by
    unfold eight bytesTo byteOf
    simp [List.range_succ]
  rw [e]
  have f : ∀ k : Nat, k < 256 → (UInt8.ofNat k).toNat = k := fun k hk => by simp [UInt8.toNat_ofNat']; omega
  simp only [List.map_cons, List.map_nil, bv, Int.toNat_natCast, List.length_cons, List.length_nil]
  rw [f _ (by omega), f _ (by omega), f _ (by omega), f _ (by omega), f _ (by omega), f _ (by omega), f _ (by omega), f _ (by omega)]
  omega
end Go.Proofs.Ytbadjigfcncfcaa

/- The contracts of key.joined and key.Group. -/
namespace Go.Proofs.Ytbadjigfcncfcaa
open Go.RowKit

/-- The dimensions' bytes, and those of the group. -/
def jb (L : List ByteArray) : List UInt8 := L.flatMap fun s => 1 :: tx s.data.toList
def jn (L : List ByteArray) : List UInt8 := jb L ++ [0]
theorem jb_snoc (L : List ByteArray) (s : ByteArray) : jb (L ++ [s]) = jb L ++ 1 :: tx s.data.toList := by simp [jb]
theorem jb_cons (s : ByteArray) (L : List ByteArray) : jb (s :: L) = 1 :: (tx s.data.toList ++ jb L) := by simp [jb]
theorem tx_len (l : List UInt8) : (tx l).length ≤ 2 * l.length + 2 := by
  have := txb_len l
  unfold tx; simp; omega
theorem jb_len (L : List ByteArray) (h : ∀ s ∈ L, s.size ≤ 16) : (jb L).length ≤ 35 * L.length := by
  induction L with
  | nil => simp [jb]
  | cons s L ih =>
    have h1 := h s (List.mem_cons_self ..)
    have h2 := ih fun t ht => h t (List.mem_cons_of_mem _ ht)
    have h3 := tx_len s.data.toList
    have h4 : s.data.toList.length = s.size := Array.length_toList
    rw [jb_cons]; simp; omega
theorem sread_in {w w' : World} {b off n : Nat} {L : List ByteArray} (hb : Below n w w') (hbn : b < n) (h : ∀ j (h : j < L.length), w.cell? ⟨b, off + j, none⟩ = some (.string L[j])) : ∀ j (h : j < L.length), w'.cell? ⟨b, off + j, none⟩ = some (.string L[j]) := fun j hj => (hb.cell (p := ⟨b, off + j, none⟩) hbn).trans (h j hj)
set_option maxRecDepth 100000 in
set_option maxHeartbeats 1000000 in
theorem joined_some (b off cap : Nat) (L : List ByteArray) (h4 : L.length ≤ 4) (h16 : ∀ s ∈ L, s.size ≤ 16) (w : World) (hbw : b < w.heap.size) (hc : ∀ j (h : j < L.length), w.cell? ⟨b, off + j, none⟩ = some (.string L[j])) :
    Calls Try.prog 68 #[.slice (some ⟨b, off, none⟩) L.length cap] w fun e w' => ∃ v, e = .returned v ∧ Own w' w.heap.size v (jn L) ∧ Below w.heap.size w w' := by
  have HC : Hid (∀ j (h : j < L.length), w.cell? ⟨b, off + j, none⟩ = some (.string L[j])) := hc
  have HS : Hid (∀ s ∈ L, s.size ≤ 16) := h16
  clear hc h16
  go_enter Try.func68, Try.ntmps68
  go_wp2_with fail
  go_loopw [3, 8] (fun x i wr => ∃ (k : Nat) (M : List UInt8), k ≤ L.length ∧ i = .int .i64 (k : Int) ∧ Hid (M = jb (L.take k)) ∧ Own wr w.heap.size x M ∧ Hid (Below w.heap.size w wr)) (fun _ i _ => L.length - (intOf i).toNat)
  case atStart => exact ⟨0, [], by omega, rfl, rfl, Own.nil _ _, Below.refl _ _⟩
  case round =>
    obtain ⟨k, M, hk, rfl, HM, HR, HB⟩ := hrel
    have hsz := HB.out.size
    have hml : M.length ≤ 140 := by
      have := jb_len (L.take k) fun s hs => HS.out s (List.mem_of_mem_take hs)
      rw [← HM.out] at this; simp at this; omega
    by_cases hlt : k < L.length
    · have hcell := (HB.out.cell (p := ⟨b, off + k, none⟩) hbw).trans (HC.out k hlt)
      have hsk := HS.out _ (List.getElem_mem hlt)
      obtain ⟨M1, HM1⟩ := hid_ex (M ++ [(1 : UInt8)])
      obtain ⟨M2, HM2⟩ := hid_ex (M1 ++ tx L[k].data.toList)
      have HE : Hid (M2 = jb (L.take (k + 1))) := by
        rw [HM2.out, HM1.out, HM.out, List.take_succ_eq_append_getElem hlt, jb_snoc, List.append_assoc]; rfl
      have hm1 : M1.length = M.length + 1 := by rw [HM1.out]; simp
      have htl : (tx L[k].data.toList).length ≤ 34 := by
        have := tx_len L[k].data.toList
        have h4 : L[k].data.toList.length = L[k].size := Array.length_toList
        omega
      generalize L[k] = s at *
      have hss : s.size ≤ 10000 := by omega
      go_wp2_with (at_builtin; refine wpList_app1 rfl _ _ rfl w.heap.size _ M 1 M1 HM1.out rfl rfl rfl HR (by omega) hsz ?_)
      intro v1 w1 HR1 hb1
      have HB1 : Hid (Below w.heap.size w w1) := HB.out.trans hb1.out
      have hsz1 := HB1.out.size
      clear hb1 HR hcell HB hsz
      go_wp2_with fail
      refine (text_any s hss _).mono ?_
      rintro e w2 ⟨vt, rfl, hot, hb2⟩
      have HB2 : Hid (Below w.heap.size w w2) := HB1.out.trans (hb2.mono hsz1)
      have HR2 : Own w2 w.heap.size v1 M1 := HR1.below hb2
      have hrt : Reads w2 vt (tx s.data.toList) := reads_own hot
      have hsz2 := HB2.out.size
      clear hb2 HR1 hot HB1 hsz1
      go_wp2_with (at_builtin; refine wpList_app rfl _ _ rfl w.heap.size _ _ M1 (tx s.data.toList) M2 HM2.out rfl rfl HR2 hrt (by omega) hsz2 ?_)
      intro v3 w3 HR3 hb3
      have HB3 : Hid (Below w.heap.size w w3) := HB2.out.trans hb3.out
      clear hb3 HR2 HB2 hsz2 hrt
      go_wp2_with fail
      go_roundw
      case rel => exact ⟨k + 1, M2, by omega, by go_num, HE, HR3, HB3⟩
      case measure => simp [intOf]; omega
    · obtain ⟨M1, HM1⟩ := hid_ex (M ++ [(0 : UInt8)])
      have HE : Hid (M1 = jn L) := by
        rw [HM1.out, HM.out, List.take_of_length_le (by omega)]; rfl
      go_wp2_with (at_builtin; refine wpList_app1 rfl _ _ rfl w.heap.size _ M 0 M1 HM1.out rfl rfl rfl HR (by omega) hsz ?_)
      intro v1 w1 HR1 hb1
      have HB1 : Hid (Below w.heap.size w w1) := HB.out.trans hb1.out
      clear hb1 HR HB
      go_wp2_with fail
      go_ret
      exact ⟨_, rfl, by rw [← HE.out]; exact HR1, HB1.out⟩
set_option maxRecDepth 100000 in
set_option maxHeartbeats 1000000 in
theorem joined_none (a : Option Addr) (cap : Nat) (w : World) :
    Calls Try.prog 68 #[.slice a 0 cap] w fun e w' => ∃ v, e = .returned v ∧ Own w' w.heap.size v (jn []) ∧ Below w.heap.size w w' := by
  go_enter Try.func68, Try.ntmps68
  go_wp2_with fail
  go_loop [3, 8] (fun x i => i = .int .i64 0 ∧ x = .slice none 0 0) (fun _ _ => 0)
  case atStart => exact ⟨rfl, rfl⟩
  case round =>
    obtain ⟨rfl, rfl⟩ := hrel
    go_wp2_with (at_builtin; refine wpList_app1 rfl _ _ rfl w.heap.size _ [] 0 (jn []) rfl rfl rfl rfl (Own.nil _ _) (by simp) (Nat.le_refl _) ?_)
    intro v1 w1 HR1 hb1
    go_wp2_with fail
    go_ret
    exact ⟨_, rfl, HR1, hb1.out⟩
theorem joined_any (v : Value) (L : List ByteArray) (hm : mayB L = true) (w : World) (h : SReads w v L) :
    Calls Try.prog 68 #[v] w fun e w' => ∃ v, e = .returned v ∧ Own w' w.heap.size v (jn L) ∧ Below w.heap.size w w' := by
  obtain ⟨hm1, hm2⟩ := mayB_iff.1 hm
  rcases h with ⟨rfl, a, cap, rfl, _⟩ | ⟨b, off, cap, rfl, h2, h3, h4, h5, h6, h7⟩
  · exact joined_none a cap w
  · exact joined_some b off cap L hm1 hm2 w h5 h6
end Go.Proofs.Ytbadjigfcncfcaa

/- The contract of key.Write. -/
namespace Go.Proofs.Ytbadjigfcncfcaa
open Go.RowKit

/-- A key's bytes. -/
def kb (L : List ByteArray) (f g : Int) : List UInt8 := (jn L ++ nb f) ++ [UInt8.ofNat g.toNat]
theorem kbox {w w' : World} {x y z : Value} {t : TypeId} (h : Below (w.heap.size + 1) (w.alloc (.cells #[x, y, z] t)) w') : w'.cell? ⟨w.heap.size, 0, none⟩ = some x ∧ w'.cell? ⟨w.heap.size, 1, none⟩ = some y ∧ w'.cell? ⟨w.heap.size, 2, none⟩ = some z := by
  refine ⟨(h.cell (p := ⟨w.heap.size, 0, none⟩) (by simp)).trans (by simp), (h.cell (p := ⟨w.heap.size, 1, none⟩) (by simp)).trans (by simp), (h.cell (p := ⟨w.heap.size, 2, none⟩) (by simp)).trans (by simp)⟩
theorem KLies.in {k : Ky} {w w' : World} {n : Nat} (h : KLies k w) (hn : w.heap.size ≤ n) (hb : Below n w w') : KLies k w' := h.below (hb.mono hn)
theorem box_below {w w' : World} {o : Obj} (h : Below (w.heap.size + 1) (w.alloc o) w') : Below w.heap.size w w' := ((Below.refl _ _).alloc (Nat.le_refl _) o).trans (h.mono (by omega))
set_option maxRecDepth 100000 in
set_option maxHeartbeats 1000000 in
theorem write_no (k : Ky) (hn : rightBK k.L k.f k.g = false) (w : World) (h : KLies k w) :
    Calls Try.prog 50 #[k.val] w fun e w' => e = .returned (.tuple #[.slice none 0 0, .int .i64 40]) ∧ Below w.heap.size w w' := by
  have HB0 : Hid (Below w.heap.size w (w.alloc (.cells #[k.v, .int .i64 k.f, .int .i64 k.g] 73))) := (Below.refl _ _).alloc (Nat.le_refl _) _
  have HK0 := h.below HB0.out
  obtain ⟨a, cap, hv, _⟩ := h.r.form
  have HKV : Hid (k.v = .slice a k.L.length cap) := hv
  obtain ⟨v, L, f, g⟩ := k
  simp only at hv
  subst hv
  unfold Ky.val
  simp only at HB0 HK0 hn HKV ⊢
  clear h
  go_enter Try.func50, Try.ntmps50
  go_wp2_with fail
  refine (right_anyK ⟨.slice a L.length cap, L, f, g⟩ _ HK0).mono ?_
  rw [hn]
  rintro e w1 ⟨rfl, hb1⟩
  have HB1 : Hid (Below w.heap.size w w1) := HB0.out.trans (hb1.mono (by simp))
  clear hb1 HK0 hn
  go_wp2_with fail
  go_ret2
  exact ⟨rfl, HB1.out⟩
set_option maxRecDepth 100000 in
set_option maxHeartbeats 1000000 in
theorem write_yes (k : Ky) (hn : rightBK k.L k.f k.g = true) (w : World) (h : KLies k w) :
    Calls Try.prog 50 #[k.val] w fun e w' => ∃ v, e = .returned (.tuple #[v, .int .i64 0]) ∧ Own w' w.heap.size v (kb k.L k.f k.g) ∧ Below w.heap.size w w' := by
  have HB0 : Hid (Below w.heap.size w (w.alloc (.cells #[k.v, .int .i64 k.f, .int .i64 k.g] 73))) := (Below.refl _ _).alloc (Nat.le_refl _) _
  have HK0 := h.below HB0.out
  obtain ⟨a, cap, hv, _⟩ := h.r.form
  obtain ⟨v, L, f, g⟩ := k
  simp only at hv
  subst hv
  unfold Ky.val
  obtain ⟨HR0, f1, f2, g1, g2⟩ := h
  simp only at HB0 HK0 hn HR0 f1 f2 g1 g2 ⊢
  have HRT : Hid (rightBK L f g = true) := hn
  have HM : Hid (mayB L = true) := by
    have := hn
    unfold rightBK at this
    exact (Bool.and_eq_true_iff.1 this).1
  have hfg : 0 ≤ f ∧ f ≤ 1099511627776 ∧ 0 ≤ g ∧ g ≤ 3 := by
    have := hn
    unfold rightBK at this
    exact of_decide_eq_true (Bool.and_eq_true_iff.1 this).2
  obtain ⟨q1, q2, q3, q4⟩ := hfg
  have HRW : Hid (SReads w (.slice a L.length cap) L) := HR0
  have hjl : (jn L).length ≤ 141 := by
    obtain ⟨m1, m2⟩ := mayB_iff.1 HM.out
    have := jb_len L m2
    unfold jn; simp; omega
  clear HR0
  go_enter Try.func50, Try.ntmps50
  go_wp2_with fail
  refine (right_anyK ⟨.slice a L.length cap, L, f, g⟩ _ HK0).mono ?_
  rw [hn]
  rintro e w1 ⟨rfl, hb1⟩
  have HX1 : Hid (Below (w.heap.size + 1) (w.alloc (.cells #[.slice a L.length cap, .int .i64 f, .int .i64 g] 73)) w1) := hb1.mono (by simp)
  clear hb1 HK0 hn HB0
  go_wp2_with fail
  refine wp_region_noPanic ?_
  refine wp_region_held_drew (S := (fun w' => Below (w.heap.size + 1) (w.alloc (.cells #[.slice a L.length cap, .int .i64 f, .int .i64 g] 73)) w')) (by kernel_rfl) ?_ (fun hHeld => ?_)
  · exact HX1.out.drew
  refine wpAnyH_take (i := 0) (v := .pointer (some ⟨w.heap.size, 0, none⟩)) rfl (by kernel_rfl) (by kernel_rfl) (by kernel_rfl) (fun _ _ _ h => h) (Or.inl ⟨by rfl, ?_⟩) (by assumption) ?_
  · (intro w1 hSw; (try dsimp only at hSw); go_simp)
  simp only [List.getElem_toArray, List.getElem_cons_zero, Act.put, List.setIfInBounds_toArray, List.set_cons_zero, List.set_cons_succ]
  refine wpAnyH_take (i := 1) (v := .slice a L.length cap) rfl (by kernel_rfl) (by kernel_rfl) (by kernel_rfl) (fun _ _ _ h => h) (Or.inl ⟨by rfl, ?_⟩) (by assumption) ?_
  · (intro w1 hSw; (try dsimp only at hSw); obtain ⟨c0, c1, c2⟩ := kbox hSw; go_simp)
  simp only [List.getElem_toArray, List.getElem_cons_succ, List.getElem_cons_zero, Act.put, List.setIfInBounds_toArray, List.set_cons_zero, List.set_cons_succ]
  refine wpAnyH_take (i := 3) (v := .pointer (some ⟨w.heap.size, 1, none⟩)) rfl (by kernel_rfl) (by kernel_rfl) (by kernel_rfl) (fun _ _ _ h => h) (Or.inl ⟨by rfl, ?_⟩) (by assumption) ?_
  · (intro w1 hSw; (try dsimp only at hSw); go_simp)
  simp only [List.getElem_toArray, List.getElem_cons_succ, List.getElem_cons_zero, Act.put, List.setIfInBounds_toArray, List.set_cons_zero, List.set_cons_succ]
  refine wpAnyH_take (i := 4) (v := .int .i64 f) rfl (by kernel_rfl) (by kernel_rfl) (by kernel_rfl) (fun _ _ _ h => h) (Or.inl ⟨by rfl, ?_⟩) (by assumption) ?_
  · (intro w1 hSw; (try dsimp only at hSw); obtain ⟨c0, c1, c2⟩ := kbox hSw; go_simp)
  simp only [List.getElem_toArray, List.getElem_cons_succ, List.getElem_cons_zero, Act.put, List.setIfInBounds_toArray, List.set_cons_zero, List.set_cons_succ]
  refine wpAnyH_ready (rs := [2]) (by kernel_rfl) (by simp) ?_
  refine AllReadyH.cons (o := _) rfl (fun K hK => ?_) AllReadyH.nil
  go_simp
  refine (joined_any _ L HM.out _ (HRW.out.below (box_below hHeld))).mono ?_
  rintro e w2 ⟨v2, rfl, HO2, b2⟩
  go_wp2_with fail
  refine hK.out _ _ ?_ (fun hHeld => ?_)
  · exact hHeld.trans (b2.mono (by have := hHeld.size; simp at this; exact this))
  clear hK K
  have HO2' : Own w2 (w.heap.size + 1) v2 (jn L) := HO2.mono (by have := HX1.out.size; simp at this ⊢; omega)
  clear HO2 b2
  refine wpAnyH_ready (rs := [5]) (by kernel_rfl) (by simp) ?_
  refine AllReadyH.cons (o := _) rfl (fun K hK => ?_) AllReadyH.nil
  go_simp
  refine (number_any f f1 f2 _).mono ?_
  rintro e w3 ⟨v3, rfl, o3, b3⟩
  go_wp2_with fail
  refine hK.out _ _ ?_ (fun hHeld => ?_)
  · exact hHeld.trans (b3.mono (by have := hHeld.size; simp at this; exact this))
  clear hK K
  have HO3 : Own w3 (w.heap.size + 1) v2 (jn L) := HO2'.below b3
  have HR3 : Reads w3 v3 (nb f) := reads_own o3
  clear o3 b3 HO2'
  obtain ⟨M1, HM1⟩ := hid_ex (jn L ++ nb f)
  have HS3 : Hid (w.heap.size + 1 ≤ w3.heap.size) := by have := hHeld.size; unfold Hid; simpa using this
  refine wpAnyH_ready (rs := [6]) (by kernel_rfl) (by simp) ?_
  refine AllReadyH.cons (o := _) rfl (fun K hK => ?_) AllReadyH.nil
  refine wp_app _ _ (by rfl) (w.heap.size + 1) v2 v3 (jn L) (nb f) M1 HM1.out (by rfl) (by rfl) HO3 HR3 (by rw [nb_len]; omega) HS3.out ?_
  intro v4 w4 HO4 HB4
  simp only [List.getElem_toArray, List.getElem_cons_succ, List.getElem_cons_zero, Act.put, List.setIfInBounds_toArray, List.set_cons_zero, List.set_cons_succ]
  refine hK.out _ _ ?_ (fun hHeld => ?_)
  · exact hHeld.trans HB4.out
  clear hK K
  clear HB4 HO3 HR3 HS3
  refine wpAnyH_take (i := 7) (v := v4) rfl (by kernel_rfl) (by kernel_rfl) (by kernel_rfl) (fun _ _ _ h => h) (Or.inl ⟨by rfl, ?_⟩) (by assumption) ?_
  · (intro w1 hSw; (try dsimp only at hSw); go_simp)
  simp only [List.getElem_toArray, List.getElem_cons_succ, List.getElem_cons_zero, Act.put, List.setIfInBounds_toArray, List.set_cons_zero, List.set_cons_succ]
  refine wpAnyH_done (by kernel_rfl) ?_ _
  refine NoPanic.normal ?_
  have HX4 : Hid (Below (w.heap.size + 1) (w.alloc (.cells #[.slice a L.length cap, .int .i64 f, .int .i64 g] 73)) w4) := hHeld
  obtain ⟨c0, c1, c2⟩ := kbox hHeld
  have hsz4 : w.heap.size + 1 ≤ w4.heap.size := by have := hHeld.size; simpa using this
  clear hHeld
  have HU : Hid (Value.int .u8 g = bc (UInt8.ofNat g.toNat)) := by
    unfold Hid bc
    rw [UInt8.toNat_ofNat', show ((g.toNat % 2 ^ 8 : Nat) : Int) = g by omega]
  obtain ⟨M2, HM2⟩ := hid_ex (M1 ++ [UInt8.ofNat g.toNat])
  have HE : Hid (M2 = kb L f g) := by rw [HM2.out, HM1.out]; rfl
  have hm1 : M1.length ≤ 149 := by rw [HM1.out, List.length_append, nb_len]; omega
  go_wp2_with (at_builtin; refine wpList_app1 rfl _ _ rfl (w.heap.size + 1) _ M1 (UInt8.ofNat g.toNat) M2 HM2.out HU.out rfl rfl HO4 (by omega) hsz4 ?_)
  intro v5 w5 HO5 hb5
  have HB5 : Hid (Below w.heap.size w w5) := box_below (HX4.out.trans hb5.out)
  clear hb5 HO4 c0 c1 c2 HX4 HU
  go_wp2_with fail
  go_ret2
  exact ⟨_, rfl, by rw [← HE.out]; exact HO5.mono (by omega), HB5.out⟩
end Go.Proofs.Ytbadjigfcncfcaa

/- The contract of key.Less. -/
namespace Go.Proofs.Ytbadjigfcncfcaa
open Go.RowKit

/-- Does a key stand ahead? -/
def lessK (a b : Ky) : Bool := decide (or3 (cmpL a.L b.L) (cmpIK a.f b.f) (cmpIK a.g b.g) < 0)
theorem kbox2 {w w' : World} {x y z x' y' z' : Value} {t t' : TypeId} (h : Below (w.heap.size + 2) ((w.alloc (.cells #[x, y, z] t)).alloc (.cells #[x', y', z'] t')) w') :
    (w'.cell? ⟨w.heap.size, 0, none⟩ = some x ∧ w'.cell? ⟨w.heap.size, 1, none⟩ = some y ∧ w'.cell? ⟨w.heap.size, 2, none⟩ = some z) ∧ (w'.cell? ⟨w.heap.size + 1, 0, none⟩ = some x' ∧ w'.cell? ⟨w.heap.size + 1, 1, none⟩ = some y' ∧ w'.cell? ⟨w.heap.size + 1, 2, none⟩ = some z') := by
  have h2 : Below (w.heap.size + 1) (w.alloc (.cells #[x, y, z] t)) w' := ((Below.refl _ _).alloc (by simp) _).trans (h.mono (by omega))
  have h3 := kbox (w := w.alloc (.cells #[x, y, z] t)) (w' := w') (x := x') (y := y') (z := z') (t := t') (by simpa using h)
  exact ⟨kbox h2, by simpa using h3⟩
theorem box2_below {w w' : World} {o o' : Obj} (h : Below (w.heap.size + 2) ((w.alloc o).alloc o') w') : Below w.heap.size w w' := (((Below.refl _ _).alloc (Nat.le_refl _) o).alloc (by simp) o').trans (h.mono (by omega))
set_option maxRecDepth 100000 in
set_option maxHeartbeats 1000000 in
theorem less_any (a b : Ky) (w : World) (ha : KLies a w) (hb : KLies b w) :
    Calls Try.prog 62 #[a.val, b.val] w fun e w' => e = .returned (.bool (lessK a b)) ∧ Below w.heap.size w w' := by
  obtain ⟨a1, c1, hv1, _⟩ := ha.r.form
  obtain ⟨a2, c2, hv2, _⟩ := hb.r.form
  have HA := ha.r
  have HB := hb.r
  obtain ⟨v, L, f, g⟩ := a
  obtain ⟨v', L', f', g'⟩ := b
  simp only at hv1 hv2 HA HB
  subst hv1 hv2
  unfold Ky.val
  simp only
  have HX : Hid (Below (w.heap.size + 2) ((w.alloc (.cells #[.slice a1 L.length c1, .int .i64 f, .int .i64 g] 73)).alloc (.cells #[.slice a2 L'.length c2, .int .i64 f', .int .i64 g'] 73)) ((w.alloc (.cells #[.slice a1 L.length c1, .int .i64 f, .int .i64 g] 73)).alloc (.cells #[.slice a2 L'.length c2, .int .i64 f', .int .i64 g'] 73))) := Below.refl _ _
  have HE : Hid (lessK ⟨.slice a1 L.length c1, L, f, g⟩ ⟨.slice a2 L'.length c2, L', f', g'⟩ = decide (or3 (cmpL L L') (cmpIK f f') (cmpIK g g') < 0)) := rfl
  have HA1 : Hid (SReads w (.slice a1 L.length c1) L) := HA
  have HB1 : Hid (SReads w (.slice a2 L'.length c2) L') := HB
  clear ha hb HA HB
  go_enter Try.func62, Try.ntmps62
  go_wp2_with fail
  refine wp_region_noPanic ?_
  refine wp_region_held_drew (S := (fun w' => Below (w.heap.size + 2) ((w.alloc (.cells #[.slice a1 L.length c1, .int .i64 f, .int .i64 g] 73)).alloc (.cells #[.slice a2 L'.length c2, .int .i64 f', .int .i64 g'] 73)) w')) (by kernel_rfl) ?_ (fun hHeld => ?_)
  · exact HX.out.drew
  refine wpAnyH_take (i := 0) (v := .pointer (some ⟨w.heap.size, 0, none⟩)) rfl (by kernel_rfl) (by kernel_rfl) (by kernel_rfl) (fun _ _ _ h => h) (Or.inl ⟨by rfl, ?_⟩) (by assumption) ?_
  · (intro w1 hSw; (try dsimp only at hSw); go_simp)
  simp only [List.getElem_toArray, List.getElem_cons_zero, Act.put, List.setIfInBounds_toArray, List.set_cons_zero, List.set_cons_succ]
  refine wpAnyH_take (i := 1) (v := .slice a1 L.length c1) rfl (by kernel_rfl) (by kernel_rfl) (by kernel_rfl) (fun _ _ _ h => h) (Or.inl ⟨by rfl, ?_⟩) (by assumption) ?_
  · (intro w1 hSw; (try dsimp only at hSw); obtain ⟨⟨k0, k1, k2⟩, k3, k4, k5⟩ := kbox2 hSw; go_simp)
  simp only [List.getElem_toArray, List.getElem_cons_succ, List.getElem_cons_zero, Act.put, List.setIfInBounds_toArray, List.set_cons_zero, List.set_cons_succ]
  refine wpAnyH_take (i := 2) (v := .pointer (some ⟨w.heap.size + 1, 0, none⟩)) rfl (by kernel_rfl) (by kernel_rfl) (by kernel_rfl) (fun _ _ _ h => h) (Or.inl ⟨by rfl, ?_⟩) (by assumption) ?_
  · (intro w1 hSw; (try dsimp only at hSw); go_simp)
  simp only [List.getElem_toArray, List.getElem_cons_succ, List.getElem_cons_zero, Act.put, List.setIfInBounds_toArray, List.set_cons_zero, List.set_cons_succ]
  refine wpAnyH_take (i := 3) (v := .slice a2 L'.length c2) rfl (by kernel_rfl) (by kernel_rfl) (by kernel_rfl) (fun _ _ _ h => h) (Or.inl ⟨by rfl, ?_⟩) (by assumption) ?_
  · (intro w1 hSw; (try dsimp only at hSw); obtain ⟨⟨k0, k1, k2⟩, k3, k4, k5⟩ := kbox2 hSw; go_simp)
  simp only [List.getElem_toArray, List.getElem_cons_succ, List.getElem_cons_zero, Act.put, List.setIfInBounds_toArray, List.set_cons_zero, List.set_cons_succ]
  refine wpAnyH_take (i := 5) (v := .pointer (some ⟨w.heap.size, 1, none⟩)) rfl (by kernel_rfl) (by kernel_rfl) (by kernel_rfl) (fun _ _ _ h => h) (Or.inl ⟨by rfl, ?_⟩) (by assumption) ?_
  · (intro w1 hSw; (try dsimp only at hSw); go_simp)
  simp only [List.getElem_toArray, List.getElem_cons_succ, List.getElem_cons_zero, Act.put, List.setIfInBounds_toArray, List.set_cons_zero, List.set_cons_succ]
  refine wpAnyH_take (i := 6) (v := .int .i64 f) rfl (by kernel_rfl) (by kernel_rfl) (by kernel_rfl) (fun _ _ _ h => h) (Or.inl ⟨by rfl, ?_⟩) (by assumption) ?_
  · (intro w1 hSw; (try dsimp only at hSw); obtain ⟨⟨k0, k1, k2⟩, k3, k4, k5⟩ := kbox2 hSw; go_simp)
  simp only [List.getElem_toArray, List.getElem_cons_succ, List.getElem_cons_zero, Act.put, List.setIfInBounds_toArray, List.set_cons_zero, List.set_cons_succ]
  refine wpAnyH_take (i := 7) (v := .pointer (some ⟨w.heap.size + 1, 1, none⟩)) rfl (by kernel_rfl) (by kernel_rfl) (by kernel_rfl) (fun _ _ _ h => h) (Or.inl ⟨by rfl, ?_⟩) (by assumption) ?_
  · (intro w1 hSw; (try dsimp only at hSw); go_simp)
  simp only [List.getElem_toArray, List.getElem_cons_succ, List.getElem_cons_zero, Act.put, List.setIfInBounds_toArray, List.set_cons_zero, List.set_cons_succ]
  refine wpAnyH_take (i := 8) (v := .int .i64 f') rfl (by kernel_rfl) (by kernel_rfl) (by kernel_rfl) (fun _ _ _ h => h) (Or.inl ⟨by rfl, ?_⟩) (by assumption) ?_
  · (intro w1 hSw; (try dsimp only at hSw); obtain ⟨⟨k0, k1, k2⟩, k3, k4, k5⟩ := kbox2 hSw; go_simp)
  simp only [List.getElem_toArray, List.getElem_cons_succ, List.getElem_cons_zero, Act.put, List.setIfInBounds_toArray, List.set_cons_zero, List.set_cons_succ]
  refine wpAnyH_take (i := 10) (v := .pointer (some ⟨w.heap.size, 2, none⟩)) rfl (by kernel_rfl) (by kernel_rfl) (by kernel_rfl) (fun _ _ _ h => h) (Or.inl ⟨by rfl, ?_⟩) (by assumption) ?_
  · (intro w1 hSw; (try dsimp only at hSw); go_simp)
  simp only [List.getElem_toArray, List.getElem_cons_succ, List.getElem_cons_zero, Act.put, List.setIfInBounds_toArray, List.set_cons_zero, List.set_cons_succ]
  refine wpAnyH_take (i := 11) (v := .int .i64 g) rfl (by kernel_rfl) (by kernel_rfl) (by kernel_rfl) (fun _ _ _ h => h) (Or.inl ⟨by rfl, ?_⟩) (by assumption) ?_
  · (intro w1 hSw; (try dsimp only at hSw); obtain ⟨⟨k0, k1, k2⟩, k3, k4, k5⟩ := kbox2 hSw; go_simp)
  simp only [List.getElem_toArray, List.getElem_cons_succ, List.getElem_cons_zero, Act.put, List.setIfInBounds_toArray, List.set_cons_zero, List.set_cons_succ]
  refine wpAnyH_take (i := 12) (v := .pointer (some ⟨w.heap.size + 1, 2, none⟩)) rfl (by kernel_rfl) (by kernel_rfl) (by kernel_rfl) (fun _ _ _ h => h) (Or.inl ⟨by rfl, ?_⟩) (by assumption) ?_
  · (intro w1 hSw; (try dsimp only at hSw); go_simp)
  simp only [List.getElem_toArray, List.getElem_cons_succ, List.getElem_cons_zero, Act.put, List.setIfInBounds_toArray, List.set_cons_zero, List.set_cons_succ]
  refine wpAnyH_take (i := 13) (v := .int .i64 g') rfl (by kernel_rfl) (by kernel_rfl) (by kernel_rfl) (fun _ _ _ h => h) (Or.inl ⟨by rfl, ?_⟩) (by assumption) ?_
  · (intro w1 hSw; (try dsimp only at hSw); obtain ⟨⟨k0, k1, k2⟩, k3, k4, k5⟩ := kbox2 hSw; go_simp)
  simp only [List.getElem_toArray, List.getElem_cons_succ, List.getElem_cons_zero, Act.put, List.setIfInBounds_toArray, List.set_cons_zero, List.set_cons_succ]
  refine wpAnyH_ready (rs := [4]) (by kernel_rfl) (by simp) ?_
  refine AllReadyH.cons (o := _) rfl (fun K hK => ?_) AllReadyH.nil
  go_simp
  refine (compare_any _ _ L L' _ (HA1.out.below (box2_below hHeld)) (HB1.out.below (box2_below hHeld))).mono ?_
  rintro e w2 ⟨rfl, hw⟩
  subst w2
  go_wp2_with fail
  refine hK.out _ _ ?_ (fun hHeld => ?_)
  · exact hHeld
  clear hK K
  refine wpAnyH_ready (rs := [9]) (by kernel_rfl) (by simp) ?_
  refine AllReadyH.cons (o := _) rfl (fun K hK => ?_) AllReadyH.nil
  go_simp
  refine (cmp64 f f' _).mono ?_
  rintro e w2 ⟨rfl, hw⟩
  subst w2
  go_wp2_with fail
  refine hK.out _ _ ?_ (fun hHeld => ?_)
  · exact hHeld
  clear hK K
  refine wpAnyH_ready (rs := [14]) (by kernel_rfl) (by simp) ?_
  refine AllReadyH.cons (o := _) rfl (fun K hK => ?_) AllReadyH.nil
  go_simp
  refine (cmpInt g g' _).mono ?_
  rintro e w2 ⟨rfl, hw⟩
  subst w2
  go_wp2_with fail
  refine hK.out _ _ ?_ (fun hHeld => ?_)
  · exact hHeld
  clear hK K
  generalize cmpL L L' = p at *
  generalize cmpIK f f' = q at *
  generalize cmpIK g g' = r at *
  refine wpAnyH_ready (rs := [15]) (by kernel_rfl) (by simp) ?_
  refine AllReadyH.cons (o := _) rfl (fun K hK => ?_) AllReadyH.nil
  go_simp
  refine hK.out _ _ ?_ (fun hHeld => ?_)
  · exact hHeld.alloc (by simp) _
  clear hK K
  refine wpAnyH_ready (rs := [16]) (by kernel_rfl) (by simp) ?_
  refine AllReadyH.cons (o := _) rfl (fun K hK => ?_) AllReadyH.nil
  go_simp
  refine (or_anyK _ _ p q r _ (by simp [go_sem]) (by simp [go_sem]) (by simp [go_sem])).mono ?_
  rintro e w2 ⟨rfl, hw⟩
  subst w2
  go_wp2_with fail
  refine hK.out _ _ ?_ (fun hHeld => ?_)
  · exact hHeld
  clear hK K
  refine wpAnyH_take (i := 17) (v := .bool (decide (or3 p q r < 0))) rfl (by kernel_rfl) (by kernel_rfl) (by kernel_rfl) (fun _ _ _ h => h) (Or.inl ⟨by rfl, ?_⟩) (by assumption) ?_
  · (intro w1 hSw; (try dsimp only at hSw); go_simp)
  simp only [List.getElem_toArray, List.getElem_cons_succ, List.getElem_cons_zero, Act.put, List.setIfInBounds_toArray, List.set_cons_zero, List.set_cons_succ]
  refine wpAnyH_take (i := 18) (v := .bool (decide (or3 p q r < 0))) rfl (by kernel_rfl) (by kernel_rfl) (by kernel_rfl) (fun _ _ _ h => h) (Or.inl ⟨by rfl, ?_⟩) (by assumption) ?_
  · (intro w1 hSw; (try dsimp only at hSw); go_simp)
  simp only [List.getElem_toArray, List.getElem_cons_succ, List.getElem_cons_zero, Act.put, List.setIfInBounds_toArray, List.set_cons_zero, List.set_cons_succ]
  refine wpAnyH_done (by kernel_rfl) ?_ _
  refine NoPanic.normal ?_
  have HB2 : Hid (Below w.heap.size w _) := box2_below hHeld
  clear hHeld
  go_wp2_with fail
  go_ret
  exact ⟨by rw [HE.out]; rfl, HB2.out⟩
end Go.Proofs.Ytbadjigfcncfcaa

/- The contracts of the statements' own 'long', and of the reference's Order and Same. -/
namespace Go.Proofs.Ytbadjigfcncfcaa
open Go.RowKit

/-- Are there too many dimensions, or too long ones? -/
def longB (L : List ByteArray) : Bool := !decide (L.length ≤ 80 ∧ ∀ s ∈ L, s.size ≤ 200)
theorem longB_no {L : List ByteArray} : longB L = false ↔ L.length ≤ 80 ∧ ∀ s ∈ L, s.size ≤ 200 := by unfold longB; simp
theorem longB_yes {L : List ByteArray} (h : ¬ (L.length ≤ 80 ∧ ∀ s ∈ L, s.size ≤ 200)) : longB L = true := by unfold longB; rw [decide_eq_false h]; rfl
def sameK (a b : Ky) : Bool := decide (cmpL a.L b.L = 0 ∧ a.f = b.f ∧ a.g = b.g)
end Go.Proofs.Ytbadjigfcncfcaa

/- Texts of one's own; the contract of key.Part. -/
namespace Go.Proofs.Ytbadjigfcncfcaa
open Go.RowKit

theorem infoS : (Try.prog.info? 9).map (fun i => (i.zero, i.size, i.bytes)) = some (some (.string ByteArray.empty), 1, 16) := by kernel_rfl
/-- Texts of one's own: their slice's array was made since base. -/
def SOwn (w : World) (base : Nat) (v : Value) (L : List ByteArray) : Prop := w.ownsRow base 9 1 v L.length (L.map Value.string) ∧ ∀ s ∈ L, s.size ≤ maxLen
theorem SOwn.nil (w : World) (base : Nat) : SOwn w base (.slice none 0 0) [] := ⟨World.ownsRow_nil _ _ _ _, by intro s hs; simp at hs⟩
theorem SOwn.mono {w : World} {base base' : Nat} {v : Value} {l : List ByteArray} (h : SOwn w base v l) (hb : base' ≤ base) : SOwn w base' v l := ⟨own_mono h.1 hb, h.2⟩
theorem SOwn.below {w w' : World} {base : Nat} {v : Value} {l : List ByteArray} (h : SOwn w base v l) (hb : Below w.heap.size w w') : SOwn w' base v l := by
  have hlt := World.ownsRow.lt h.1
  obtain ⟨⟨h1, h2⟩, h3⟩ := h
  refine ⟨⟨h1, ?_⟩, h3⟩
  rcases h2 with h2 | ⟨g, cap, cur, hv, hg, hw, r⟩
  · exact .inl h2
  · exact .inr ⟨g, cap, cur, hv, hg, (hb.block g (hlt g (by rw [hv]; rfl)).2).trans hw, r⟩
theorem SOwn.reads {w : World} {base : Nat} {v : Value} {L : List ByteArray} (h : SOwn w base v L) : SReads w v L := by
  obtain ⟨h, hs⟩ := h
  obtain ⟨h1, h2⟩ := h
  simp at h1
  rcases h2 with ⟨rfl, h0⟩ | ⟨g, cap, cur, rfl, hg, hw, hn, hm, hs1, ht⟩
  · left
    exact ⟨List.length_eq_zero_iff.1 (by omega), none, 0, rfl, fun _ => rfl⟩
  · rcases Nat.eq_zero_or_pos L.length with h0 | h0
    · left; exact ⟨List.length_eq_zero_iff.1 h0, _, cap, by rw [h0], fun h => by cases h⟩
    · right
      have hown : w.ownsRow base 9 1 (.slice (some ⟨g, 0, none⟩) L.length cap) L.length (L.map Value.string) := ⟨by simp, .inr ⟨g, cap, cur, rfl, hg, hw, hn, hm, hs1, ht⟩⟩
      refine ⟨g, 0, cap, rfl, h0, by omega, hm, (hown.lt g rfl).2, fun j hj => ?_, hs⟩
      have := hown.cells (g := g) rfl j (.string L[j]) (by simp [hj])
      have ea : (⟨g, 0, none⟩ : Addr).add j = ⟨g, 0 + j, none⟩ := by simp [Addr.add]; omega
      rw [ea] at this
      exact this
theorem wpList_sapp1 {w0 : World} {ops : Array Oper} {rest : List Oper} {o : Oper} {a : Act} {Q : Exit → Act → World → Prop} {t : TypeId} {y : ByteArray} (hgd : o.guard = none) (s x : Operand)
    (ho : o.op = .call { callee := .builtin .append, args := #[s, x], argTypes := #[45, 45] })
    (base : Nat) (v : Value) (L M : List ByteArray) (hM : M = L ++ [y]) (hy : y.size ≤ maxLen) (hs : a.eval s = v) (hx : a.eval x = .slice (some ⟨w0.heap.size, 0, none⟩) 1 1) (hown : SOwn w0 base v L)
    (hlen : L.length + 1 ≤ 8796093022208) (hbase : base ≤ w0.heap.size)
    (h : ∀ v' w', SOwn w' base v' M → Hid (Below base w0 w') → wpList Try.prog ops Q rest (a.put o.dst v') w') : wpList Try.prog ops Q (o :: rest) a (w0.alloc (.cells #[.string y] t)) := by
  subst hM
  obtain ⟨i0, hi, hz0, hz1, hz2⟩ := info_parts infoS
  refine wpList_append_own (w0.alloc (.cells #[.string y] t)) hgd s x 45 ho base 9 i0 (.string ByteArray.empty) 1 16 Try.underlying45 hi hz0 hz1 hz2 rfl (by decide) v L.length (L.map Value.string) hs (hown.1.alloc _) ⟨w0.heap.size, 0, none⟩ 1 1 [.string y] hx rfl news1 (by intro u hu; simp at hu; subst hu; rfl) (by simp [maxLen]; omega) (by omega) (by simp; omega) ?_
  intro v' w' hown' hgrow _
  refine h v' w' ⟨?_, ?_⟩ (((Below.refl _ _).alloc hbase _).grown hgrow (by simp; omega) (own_block hown.1))
  · rw [List.length_append, List.map_append]; exact hown'
  · intro u hu
    rcases List.mem_append.1 hu with hu | hu
    · exact hown.2 u hu
    · simp at hu; subst hu; exact hy
/-- A part of dimensions. -/
def pt : List ByteArray → Nat → List ByteArray
  | [], _ => []
  | s :: L, m => (if m % 2 = 1 then [s] else []) ++ pt L (m / 2)
theorem pt_snoc (L : List ByteArray) (s : ByteArray) : ∀ m, pt (L ++ [s]) m = pt L m ++ (if m / 2 ^ L.length % 2 = 1 then [s] else []) := by
  induction L with
  | nil => intro m; simp [pt]
  | cons x L ih =>
    intro m
    simp only [List.cons_append, pt, ih, List.length_cons, List.append_assoc]
    have e : m / 2 / 2 ^ L.length = m / 2 ^ (L.length + 1) := by rw [Nat.div_div_eq_div_mul, Nat.pow_succ, Nat.mul_comm 2]
    simp only [e]
theorem pt_len (L : List ByteArray) : ∀ m, (pt L m).length ≤ L.length := by
  induction L with
  | nil => intro m; simp [pt]
  | cons x L ih => intro m; have := ih (m / 2); simp only [pt, List.length_append, List.length_cons]; split <;> simp <;> omega
theorem i64_and_one (a : Nat) (h : a < 9223372036854775808) : bits .and .i64 (a : Int) 1 = ((a % 2 : Nat) : Int) := by
  show IntKind.i64.wrap ((BitVec.ofInt 64 (a : Int) &&& BitVec.ofInt 64 ((1 : Nat) : Int)).toNat : Int) = _
  rw [BitVec.toNat_and, ofInt_u64 a (by omega), ofInt_u64 1 (by omega), Nat.and_one_is_mod]
  simp [IntKind.wrap, IntKind.bits, IntKind.signed]
  omega
theorem shr_min (m k : Nat) (h : m < 9223372036854775808) : m / 2 ^ min k 64 = m / 2 ^ k := by
  rcases Nat.le_total k 64 with h1 | h1
  · rw [Nat.min_eq_left h1]
  · rw [Nat.min_eq_right h1, Nat.div_eq_of_lt (by omega), Nat.div_eq_of_lt (Nat.lt_of_lt_of_le (by omega : m < 2 ^ 64) (Nat.pow_le_pow_right (by decide) h1))]
theorem shr_and (m k : Nat) (h : m < 9223372036854775808) : bits .and .i64 ((m : Int) / 2 ^ min k 64) 1 = ((m / 2 ^ k % 2 : Nat) : Int) := by
  have := i64_and_one (m / 2 ^ min k 64) (Nat.lt_of_le_of_lt (Nat.div_le_self _ _) h)
  rw [shr_min m k h] at this
  rw [← this, ← shr_min m k h]
  push_cast; rfl
end Go.Proofs.Ytbadjigfcncfcaa

/- What the fixed calls of layer 6's 'alive' come to: true. -/
namespace Go.Proofs.Ytbadjigfcncfcaa
open Go.RowKit

set_option maxRecDepth 100000 in
set_option maxHeartbeats 1000000 in
theorem parted_nil (a : Option Addr) (cap : Nat) (w : World) :
    Calls Try.prog 73 #[.slice a 0 cap] w fun e w' => e = .returned (.tuple #[.slice none 0 0, .slice none 0 0, .bool false]) ∧ w' = w := by
  go_enter Try.func73, Try.ntmps73
  go_wp2_with fail
  go_step3
  go_wp2_with fail
  go_step3
  go_wp2_with fail
  go_loop [0, 5] (fun x y => x = .slice a 0 cap ∧ y = .slice none 0 0) (fun _ _ => 0)
  case atStart => exact ⟨rfl, rfl⟩
  case round =>
    obtain ⟨rfl, rfl⟩ := hrel
    go_wp2_with fail
    go_ret3
    exact ⟨rfl, rfl⟩
set_option maxRecDepth 100000 in
set_option maxHeartbeats 1000000 in
theorem read_nil (a : Option Addr) (cap : Nat) (w : World) :
    Calls Try.prog 53 #[.slice a 0 cap] w fun e w' => e = .returned (.tuple #[.agg #[.slice none 0 0, .int .i64 0, .int .i64 0], .int .i64 40]) ∧ Below w.heap.size w w' := by
  go_enter Try.func53, Try.ntmps53
  go_wp2_with fail
  refine (parted_nil a cap _).mono ?_
  rintro e w1 ⟨rfl, hw⟩
  subst w1
  go_wp2_with fail
  refine bodyPost_ret (v := .tuple #[.agg #[.slice none 0 0, .int .i64 0, .int .i64 0], .int .i64 40]) (by simp [results, Try.results53, go_sem]) rfl ⟨rfl, ?_⟩
  exact (Below.refl _ _).alloc (Nat.le_refl _) _
end Go.Proofs.Ytbadjigfcncfcaa

/- Pieces of bytes that a slice reads. -/
namespace Go.Proofs.Ytbadjigfcncfcaa
open Go.RowKit

theorem Reads.take {w : World} {a : Option Addr} {cap : Nat} {l : List UInt8} (h : Reads w (.slice a l.length cap) l) {c : Nat} (hc : c ≤ l.length) : Reads w (.slice a c cap) (l.take c) := by
  rcases h with ⟨rfl, a', cap', hv, hn⟩ | ⟨b, off, cap', hv, h2, h3, h4, h5, h6⟩
  · have : c = 0 := by simpa using hc
    subst this
    simp at hv
    obtain ⟨rfl, rfl⟩ := hv
    exact .inl ⟨rfl, _, _, rfl, hn⟩
  · simp at hv
    obtain ⟨rfl, rfl⟩ := hv
    exact reads_take c hc h3 h4 h5 h6
theorem Reads.cap {w : World} {a : Option Addr} {n cap : Nat} {l : List UInt8} (h : Reads w (.slice a n cap) l) (h0 : 0 < l.length) : l.length ≤ cap := by
  rcases h with ⟨rfl, _⟩ | ⟨b, off, cap', hv, h2, h3, h4, h5, h6⟩
  · simp at h0
  · simp at hv; omega
theorem Reads.drop {w : World} {a : Option Addr} {cap : Nat} {l : List UInt8} (h : Reads w (.slice a l.length cap) l) {c : Nat} (hc : c ≤ l.length) (b off : Nat) (ha : a = some ⟨b, off, none⟩) :
    (c < cap → Reads w (.slice (some ⟨b, off + c, none⟩) (l.length - c) (cap - c)) (l.drop c)) ∧ (¬ c < cap → l.drop c = []) := by
  rcases h with ⟨rfl, a', cap', hv, hn⟩ | ⟨b', off', cap', hv, h2, h3, h4, h5, h6⟩
  · have : c = 0 := by simpa using hc
    subst this
    refine ⟨fun _ => .inl ⟨rfl, _, _, rfl, fun h => by cases h⟩, fun _ => rfl⟩
  · simp at hv
    obtain ⟨hv1, rfl⟩ := hv
    rw [ha] at hv1
    simp at hv1
    obtain ⟨rfl, rfl⟩ := hv1
    have hl : (l.drop c).length = l.length - c := by simp
    refine ⟨fun hcc => ?_, fun hcc => List.drop_eq_nil_of_le (by omega)⟩
    rcases Nat.eq_zero_or_pos (l.length - c) with h0 | h0
    · left; exact ⟨List.length_eq_zero_iff.1 (by omega), _, _, by rw [h0], fun h => by cases h⟩
    · right
      refine ⟨b, off + c, cap - c, by rw [hl], by omega, by omega, by omega, h5, fun j hj => ?_⟩
      rw [Nat.add_assoc, h6 (c + j) (by omega)]
      simp
theorem reads_nil {w : World} {a : Option Addr} {cap : Nat} (h : a = none → cap = 0) : Reads w (.slice a 0 cap) [] := .inl ⟨rfl, _, _, rfl, h⟩
end Go.Proofs.Ytbadjigfcncfcaa

/- The contract of key.parted. -/
namespace Go.Proofs.Ytbadjigfcncfcaa
open Go.RowKit

/-- The dimensions at bytes' front, so many more at most, and what stands behind the group. -/
def pdF : Nat → List UInt8 → List ByteArray → Option (List ByteArray × List UInt8)
  | 0, _, _ => none
  | _ + 1, [], _ => none
  | n + 1, x :: r, acc => if x.toNat = 0 then some (acc, r) else if x.toNat = 1 then (if (rtF r [] 0).2.2 = 0 then pdF n (r.drop (rtF r [] 0).2.1) (acc ++ [⟨(rtF r [] 0).1.toArray⟩]) else none) else none
def vlen : Value → Nat
  | .slice _ n _ => n
  | _ => 0
theorem txb_ge (l : List UInt8) : l.length ≤ (txb l).length := by
  induction l with
  | nil => simp
  | cons x l ih => simp only [txb, List.length_append, List.length_cons]; split <;> simp <;> omega
theorem rt_facts {l S : List UInt8} {N : Nat} (h : rtF l [] 0 = (S, N, 0)) : 2 ≤ N ∧ N ≤ l.length ∧ S.length ≤ N ∧ tx S = l.take N := by
  obtain ⟨s, c, h1, h2, h3, h4, h5⟩ := rtF_ok l.length l [] 0 S N (Nat.le_refl _) h
  have e : N = c := by omega
  subst e
  have e2 : S = s := by simpa using h4
  subst e2
  have h6 := congrArg List.length h5
  have h7 := txb_ge S
  unfold tx at h6
  simp at h6
  exact ⟨h2, h3, by omega, h5⟩
set_option maxRecDepth 100000 in
set_option maxHeartbeats 2000000 in
theorem parted_some (v : Value) (l : List UInt8) (hl : l.length ≤ 1000) (w : World) (h : Reads w v l) :
    Calls Try.prog 73 #[v] w fun e w' => (∃ D r vd vr, pdF 5 l [] = some (D, r) ∧ e = .returned (.tuple #[vd, vr, .bool true]) ∧ SOwn w' w.heap.size vd D ∧ Reads w' vr r ∧ Below w.heap.size w w') ∨ (pdF 5 l [] = none ∧ e = .returned (.tuple #[.slice none 0 0, .slice none 0 0, .bool false]) ∧ Below w.heap.size w w') := by
  go_enter Try.func73, Try.ntmps73
  go_wp2_with fail
  go_step3
  go_wp2_with fail
  go_step3
  go_wp2_with fail
  go_loopw [0, 5] (fun x y wr => ∃ (n : Nat) (r : List UInt8) (A : List ByteArray), n ≤ 5 ∧ Hid (A.length = 5 - n) ∧ r.length ≤ 1000 ∧ Hid (pdF 5 l [] = pdF n r A) ∧ Reads w x r ∧ SOwn wr w.heap.size y A ∧ Hid (Below w.heap.size w wr)) (fun _ y _ => 5 - vlen y)
  case atStart => exact ⟨5, l, [], by omega, rfl, hl, rfl, h, SOwn.nil _ _, Below.refl _ _⟩
  case round =>
    obtain ⟨n, r, A, hn, HAL, hrl, HP, HR, HO, HB⟩ := hrel
    obtain ⟨ax, cx, rfl, _⟩ := HR.form
    obtain ⟨ay, cy, rfl, _⟩ := HO.reads.form
    have HRr : Hid (Reads w (.slice ax r.length cx) r) := HR
    have HOo : Hid (SOwn wr w.heap.size (.slice ay A.length cy) A) := HO
    clear HR HO h
    have hAl := HAL.out
    by_cases h0 : r.length = 0
    · have hr : r = [] := List.length_eq_zero_iff.1 h0
      have HN : Hid (pdF 5 l [] = none) := by rw [HP.out, hr]; cases n <;> rfl
      have i0 : ¬ (0 : Int) < (r.length : Int) := by omega
      clear hAl hr
      go_wp2_with fail
      go_ret3
      exact .inr ⟨HN.out, rfl, HB.out⟩
    · by_cases hn0 : n = 0
      · have HN : Hid (pdF 5 l [] = none) := by rw [HP.out, hn0]; rfl
        have i0 : (0 : Int) < (r.length : Int) := by omega
        have i1 : ¬ (A.length : Int) ≤ 4 := by omega
        clear hAl hn0
        go_wp2_with fail
        go_ret3
        exact .inr ⟨HN.out, rfl, HB.out⟩
      · obtain ⟨m, rfl⟩ : ∃ m, n = m + 1 := ⟨n - 1, by omega⟩
        obtain ⟨x, r', rfl⟩ : ∃ x r', r = x :: r' := by cases r with
          | nil => simp at h0
          | cons x r' => exact ⟨x, r', rfl⟩
        obtain ⟨b, off, rfl, hbw, hc⟩ := HRr.out.at 0 (by simp)
        have hcell := (HB.out.cell (p := ⟨b, off + 0, none⟩) hbw).trans hc
        simp only [Nat.add_zero, List.getElem_cons_zero] at hcell
        unfold bc at hcell
        have hxb : x.toNat < 256 := x.toNat_lt
        have HP2 : Hid (pdF 5 l [] = if x.toNat = 0 then some (A, r') else if x.toNat = 1 then (if (rtF r' [] 0).2.2 = 0 then pdF m (r'.drop (rtF r' [] 0).2.1) (A ++ [⟨(rtF r' [] 0).1.toArray⟩]) else none) else none) := HP.out
        have hlr : (x :: r').length = r'.length + 1 := rfl
        have hrl2 : r'.length + 1 ≤ 1000 := hrl
        have HDC : Hid (∀ c, c ≤ r'.length + 1 → (c < cx → Reads w (.slice (some ⟨b, off + c, none⟩) (r'.length + 1 - c) (cx - c)) ((x :: r').drop c)) ∧ (¬ c < cx → (x :: r').drop c = [])) := fun c hc => HRr.out.drop (c := c) hc b off rfl
        have hcap := HRr.out.cap (by simp)
        rw [hlr] at hcap ⊢
        have i0 : (0 : Int) < (r'.length : Int) + 1 := by omega
        have i1 : (A.length : Int) ≤ 4 := by omega
        have i2 : (1 : Int) ≤ (cx : Int) := by omega
        have HD1 : Hid _ := HRr.out.drop (c := 1) (by simp) b off rfl
        clear hc h0 hn0 hAl HP hlr
        by_cases hx0 : x.toNat = 0
        · have j0 : ((x.toNat : Int) == 0) = true := by simpa using hx0
          have HN : Hid (pdF 5 l [] = some (A, r')) := by rw [HP2.out, if_pos hx0]; rfl
          clear HP2
          by_cases hc1 : (cx : Int) = 1
          · have HZ : Hid (r' = []) := by
              have := HD1.out.2 (by omega)
              unfold Hid; simpa using this
            clear hx0 HD1
            go_wp2_with fail
            go_quiet (fail)
            go_wp2_with fail
            rw [Exit.noGoto_ret]
            go_ret3
            refine .inl ⟨A, r', _, _, HN.out, rfl, HOo.out.below (below_drewN (Below.refl _ _) _), ?_, below_drewN HB.out _⟩
            have h0 := HZ.out
            subst h0
            exact reads_nil (fun h => by cases h)
          · have HRR : Hid (Reads w (.slice (some ⟨b, off + 1, none⟩) r'.length (cx - 1)) r') := HD1.out.1 (by omega)
            clear hx0 HD1
            go_wp2_with fail
            go_quiet (fail)
            go_wp2_with fail
            rw [Exit.noGoto_ret]
            go_ret3
            exact .inl ⟨A, r', _, _, HN.out, rfl, HOo.out.below (below_drewN (Below.refl _ _) _), HRR.out.below (below_drewN HB.out _), below_drewN HB.out _⟩
        · have j0 : ((x.toNat : Int) == 0) = false := by simpa using hx0
          by_cases hx1 : x.toNat = 1
          · have j1 : ((x.toNat : Int) == 1) = true := by simp; omega
            by_cases hc1 : (cx : Int) = 1
            · have HZ : Hid (r' = []) := by
                have := HD1.out.2 (by omega)
                unfold Hid; simpa using this
              have HN : Hid (pdF 5 l [] = none) := by
                rw [HP2.out, if_neg hx0, if_pos hx1, HZ.out]; rfl
              clear HP2 HD1 hx0 hx1
              go_wp2_with fail
              refine (readText_any _ r' (by omega) _ (by rw [HZ.out]; exact reads_nil (fun h => by cases h))).mono ?_
              rw [HZ.out, show rtF [] [] 0 = ([], 0, 10) from rfl]
              rintro e w1 ⟨rfl, hb1⟩
              have HB1 : Hid (Below w.heap.size w w1) := HB.out.trans (hb1.mono HB.out.size)
              clear hb1 hcell
              go_wp2_with fail
              rw [Exit.noGoto_ret]
              go_ret3
              exact .inr ⟨HN.out, rfl, HB1.out⟩
            · have HRR : Hid (Reads w (.slice (some ⟨b, off + 1, none⟩) r'.length (cx - 1)) r') := HD1.out.1 (by omega)
              have HP3 : Hid (pdF 5 l [] = if (rtF r' [] 0).2.2 = 0 then pdF m (r'.drop (rtF r' [] 0).2.1) (A ++ [⟨(rtF r' [] 0).1.toArray⟩]) else none) := by
                rw [HP2.out, if_neg hx0, if_pos hx1]; rfl
              clear HP2 HD1 hx0 hx1
              go_wp2_with fail
              refine (readText_any _ r' (by omega) _ (HRR.out.below HB.out)).mono ?_
              obtain ⟨q, hq⟩ := hid_ex (rtF r' [] 0)
              rw [← hq.out] at HP3 ⊢
              have HF : Hid (q.2.2 = 0 → 2 ≤ q.2.1 ∧ q.2.1 ≤ r'.length ∧ q.1.length ≤ q.2.1) := by
                intro h
                have := rt_facts (l := r') (S := q.1) (N := q.2.1) (by rw [← hq.out, ← h])
                exact ⟨this.1, this.2.1, this.2.2.1⟩
              obtain ⟨S, N, E⟩ := q
              simp only at HP3 HF ⊢
              rintro e w1 ⟨rfl, hb1⟩
              have HB1 : Hid (Below w.heap.size w w1) := HB.out.trans (hb1.mono HB.out.size)
              have HO1 : SOwn w1 w.heap.size (.slice ay A.length cy) A := HOo.out.below hb1
              clear hb1 hcell hq HOo HB
              by_cases hE : E = 0
              · subst hE
                obtain ⟨f1, f2, f3⟩ := HF.out rfl
                have HP4 : Hid (pdF 5 l [] = pdF m (r'.drop N) (A ++ [⟨S.toArray⟩])) := by rw [HP3.out, if_pos rfl]; rfl
                obtain ⟨A1, HA1⟩ := hid_ex (A ++ [(⟨S.toArray⟩ : ByteArray)])
                have hys : (⟨S.toArray⟩ : ByteArray).size ≤ maxLen := by unfold maxLen; show S.toArray.size ≤ _; simp; omega
                have hs1 := HB1.out.size
                clear HP3 HF
                go_wp2_with (at_builtin; refine wpList_sapp1 rfl _ _ rfl w.heap.size _ A A1 HA1.out hys rfl rfl HO1 (by omega) hs1 ?_)
                intro v2 w2 HO2 hb2
                have HB2 : Hid (Below w.heap.size w w2) := HB1.out.trans hb2.out
                obtain ⟨a2, c2, rfl, _⟩ := HO2.reads.form
                have HA1l : Hid (A1.length = A.length + 1) := by rw [HA1.out]; simp [Hid]
                clear hb2 HO1 HB1 hs1
                have k1 : 1 + (N : Int) ≤ (r'.length : Int) + 1 := by omega
                have k2 : 1 + (N : Int) ≤ (cx : Int) := by omega
                have hdN : (x :: r').drop (1 + N) = r'.drop N := by rw [Nat.add_comm]; rfl
                have HDN : Hid _ := HDC.out (1 + N) (by omega)
                rw [hdN] at HDN
                have HLN : Hid ((r'.drop N).length ≤ 1000) := by unfold Hid; simp; omega
                have HAL2 : Hid (A1.length = 5 - m) := by have := HAL.out; have := HA1l.out; unfold Hid; omega
                rw [← HA1.out] at HP4
                by_cases hc2 : (cx : Int) = 1 + (N : Int)
                · have HZ : Hid (r'.drop N = []) := HDN.out.2 (by omega)
                  have HRN : Reads w (.slice (some ⟨b, off, none⟩) (r'.length + 1 - (1 + N)) (cx - (1 + N))) (r'.drop N) := by
                    rw [HZ.out]
                    have : r'.length + 1 - (1 + N) = 0 := by
                      have := congrArg List.length HZ.out
                      simp at this; omega
                    rw [this]
                    exact reads_nil (fun h => by cases h)
                  clear HDN hdN HZ
                  go_wp2_with fail
                  go_roundw
                  case rel => exact ⟨m, r'.drop N, A1, by omega, HAL2, HLN.out, HP4, HRN, HO2, HB2⟩
                  case measure =>
                    have := HA1l.out; have := HAL.out
                    simp [vlen]; omega
                · have HRN : Reads w (.slice (some ⟨b, off + (1 + N), none⟩) (r'.length + 1 - (1 + N)) (cx - (1 + N))) (r'.drop N) := HDN.out.1 (by omega)
                  clear HDN hdN
                  go_wp2_with fail
                  go_roundw
                  case rel => exact ⟨m, r'.drop N, A1, by omega, HAL2, HLN.out, HP4, HRN, HO2, HB2⟩
                  case measure =>
                    have := HA1l.out; have := HAL.out
                    simp [vlen]; omega
              · have HN : Hid (pdF 5 l [] = none) := by rw [HP3.out, if_neg hE]; rfl
                have jE : (E == 0) = false := by simpa using hE
                clear HP3 HF hE
                go_wp2_with fail
                rw [Exit.noGoto_ret]
                go_ret3
                exact .inr ⟨HN.out, rfl, HB1.out⟩
          · have j1 : ((x.toNat : Int) == 1) = false := by simp; omega
            have HN : Hid (pdF 5 l [] = none) := by rw [HP2.out, if_neg hx0, if_neg hx1]; rfl
            clear HP2 HD1 hx0 hx1
            go_wp2_with fail
            rw [Exit.noGoto_ret]
            go_ret3
            exact .inr ⟨HN.out, rfl, HB.out⟩
end Go.Proofs.Ytbadjigfcncfcaa

/- Keys' bytes stand as the keys do: no program in sight. -/
namespace Go.Proofs.Ytbadjigfcncfcaa

theorem less_irr (l : List UInt8) : Op.bytesLess l l = false := by
  induction l with
  | nil => rfl
  | cons x l ih => rw [less_same]; exact ih
theorem less_asym (l : List UInt8) : ∀ m, Op.bytesLess l m = true → Op.bytesLess m l = false := by
  induction l with
  | nil => intro m _; cases m <;> rfl
  | cons x l ih =>
    intro m h
    cases m with
    | nil => simp [Op.bytesLess] at h
    | cons y m =>
      rcases Nat.lt_trichotomy x.toNat y.toNat with h1 | h1 | h1
      · exact less_gt _ _ h1
      · obtain rfl := u8_eq h1
        rw [less_same] at h ⊢; exact ih m h
      · rw [less_gt _ _ h1] at h; simp at h
theorem less_tot (l : List UInt8) : ∀ m, l ≠ m → Op.bytesLess l m = false → Op.bytesLess m l = true := by
  induction l with
  | nil => intro m h1 h2; cases m with
    | nil => exact absurd rfl h1
    | cons y m => simp [Op.bytesLess] at h2
  | cons x l ih =>
    intro m h1 h2
    cases m with
    | nil => rfl
    | cons y m =>
      rcases Nat.lt_trichotomy x.toNat y.toNat with h3 | h3 | h3
      · rw [less_lt _ _ h3] at h2; simp at h2
      · obtain rfl := u8_eq h3
        rw [less_same] at h2 ⊢; exact ih m (fun e => h1 (by rw [e])) h2
      · exact less_lt _ _ h3
theorem ba_eq {s t : ByteArray} : s.data.toList = t.data.toList ↔ s = t := by
  constructor
  · intro h
    cases s; cases t
    simp at h
    rw [h]
  · intro h; rw [h]
theorem cmpS_zero {s t : ByteArray} : cmpS s t = 0 ↔ s = t := by
  unfold cmpS
  rw [ByteArray.toList_eq, ByteArray.toList_eq]
  constructor
  · intro h
    by_cases h1 : Op.bytesLess s.data.toList t.data.toList = true
    · rw [if_pos h1] at h; simp at h
    · rw [if_neg h1] at h
      by_cases h2 : s.data.toList = t.data.toList
      · exact ba_eq.1 h2
      · rw [if_neg h2] at h; simp at h
  · rintro rfl
    rw [if_neg (by rw [less_irr]; decide), if_pos rfl]
theorem cmpS_neg {s t : ByteArray} : cmpS s t < 0 ↔ Op.bytesLess s.data.toList t.data.toList = true := by
  unfold cmpS
  rw [ByteArray.toList_eq, ByteArray.toList_eq]
  by_cases h1 : Op.bytesLess s.data.toList t.data.toList = true
  · rw [if_pos h1]; simp [h1]
  · rw [if_neg h1]; split <;> simp [h1]
theorem cmpL_zero (L : List ByteArray) : ∀ M, cmpL L M = 0 ↔ L = M := by
  induction L with
  | nil => intro M; cases M <;> simp [cmpL]
  | cons x L ih =>
    intro M
    cases M with
    | nil => simp [cmpL]
    | cons y M =>
      rw [cmpL]
      by_cases h : cmpS x y = 0
      · rw [if_neg (by simpa using h), ih]
        have := cmpS_zero.1 h
        subst this; simp
      · rw [if_pos h]
        constructor
        · intro h'; exact absurd h' h
        · intro h'; simp at h'; exact absurd (cmpS_zero.2 h'.1) h
theorem jb_less (L : List ByteArray) : ∀ M A B, Op.bytesLess (jb L ++ 0 :: A) (jb M ++ 0 :: B) = if cmpL L M = 0 then Op.bytesLess A B else decide (cmpL L M < 0) := by
  induction L with
  | nil =>
    intro M A B
    cases M with
    | nil => show Op.bytesLess (0 :: A) (0 :: B) = _; rw [less_same]; rfl
    | cons y M => rw [jb_cons]; show Op.bytesLess (0 :: A) (1 :: _) = _; rw [less_lt _ _ (by decide)]; rfl
  | cons x L ih =>
    intro M A B
    cases M with
    | nil => rw [jb_cons]; show Op.bytesLess (1 :: _) (0 :: B) = _; rw [less_gt _ _ (by decide)]; rfl
    | cons y M =>
      rw [jb_cons, jb_cons, List.cons_append, List.cons_append, less_same]
      unfold tx
      simp only [List.append_assoc, List.cons_append, List.nil_append]
      rw [tx_less, ih, cmpL]
      by_cases h : x = y
      · subst h
        rw [if_pos rfl, cmpS_zero.2 rfl]; simp
      · have h0 : ¬ cmpS x y = 0 := fun e => h (cmpS_zero.1 e)
        rw [if_neg (fun e => h (ba_eq.1 e)), if_pos h0, if_neg h0]
        rw [Bool.eq_iff_iff, decide_eq_true_iff, cmpS_neg]
theorem jb_inj (L : List ByteArray) : ∀ M A B, jb L ++ 0 :: A = jb M ++ 0 :: B → L = M ∧ A = B := by
  induction L with
  | nil =>
    intro M A B h
    cases M with
    | nil => have h' : (0 : UInt8) :: A = 0 :: B := h; simp at h'; exact ⟨rfl, h'⟩
    | cons y M => rw [jb_cons] at h; have h' : (0 : UInt8) :: A = 1 :: _ := h; simp at h'
  | cons x L ih =>
    intro M A B h
    cases M with
    | nil => rw [jb_cons] at h; have h' : (1 : UInt8) :: _ = 0 :: B := h; simp at h'
    | cons y M =>
      rw [jb_cons, jb_cons, List.cons_append, List.cons_append] at h
      simp only [List.cons.injEq, true_and] at h
      unfold tx at h
      simp only [List.append_assoc, List.cons_append, List.nil_append] at h
      obtain ⟨h1, h2⟩ := tx_inj _ _ _ _ h
      obtain ⟨h3, h4⟩ := ih _ _ _ h2
      exact ⟨by rw [ba_eq.1 h1, h3], h4⟩
theorem bv_snoc (l : List UInt8) (x : UInt8) : bv (l ++ [x]) = bv l * 256 + x.toNat := by
  induction l with
  | nil => simp [bv]
  | cons y l ih =>
    simp only [List.cons_append, bv, ih, List.length_append, List.length_cons, List.length_nil, Nat.pow_succ, Nat.add_mul]
    rw [← Nat.mul_assoc, Nat.add_assoc]
theorem tail_less (f g f' g' : Int) (h : 0 ≤ f ∧ f ≤ 1099511627776 ∧ 0 ≤ g ∧ g ≤ 3) (h' : 0 ≤ f' ∧ f' ≤ 1099511627776 ∧ 0 ≤ g' ∧ g' ≤ 3) :
    Op.bytesLess (nb f ++ [UInt8.ofNat g.toNat]) (nb f' ++ [UInt8.ofNat g'.toNat]) = decide (f < f' ∨ f = f' ∧ g < g') := by
  rw [less_bv _ _ (by simp [nb_len]), bv_snoc, bv_snoc]
  have e1 := bv_nb f (by omega) (by omega)
  have e2 := bv_nb f' (by omega) (by omega)
  have e3 : (UInt8.ofNat g.toNat).toNat = g.toNat := by rw [UInt8.toNat_ofNat']; omega
  have e4 : (UInt8.ofNat g'.toNat).toNat = g'.toNat := by rw [UInt8.toNat_ofNat']; omega
  rw [e3, e4]
  apply decide_eq_decide.2
  omega
theorem right_facts {L : List ByteArray} {f g : Int} (h : rightBK L f g = true) : mayB L = true ∧ 0 ≤ f ∧ f ≤ 1099511627776 ∧ 0 ≤ g ∧ g ≤ 3 := by
  unfold rightBK at h
  obtain ⟨h1, h2⟩ := Bool.and_eq_true_iff.1 h
  exact ⟨h1, of_decide_eq_true h2⟩
theorem kb_form (L : List ByteArray) (f g : Int) : kb L f g = jb L ++ 0 :: (nb f ++ [UInt8.ofNat g.toNat]) := by
  unfold kb jn; simp
theorem or3_neg (c f g f' g' : Int) : (or3 c (cmpIK f f') (cmpIK g g') < 0) ↔ (c < 0 ∨ c = 0 ∧ (f < f' ∨ f = f' ∧ g < g')) := by
  unfold or3 cmpIK
  repeat' split
  all_goals omega
/-- IN ORDER. -/
theorem kb_less (a b : Ky) (ha : rightBK a.L a.f a.g = true) (hb : rightBK b.L b.f b.g = true) : Op.bytesLess (kb a.L a.f a.g) (kb b.L b.f b.g) = lessK a b := by
  rw [kb_form, kb_form, jb_less, tail_less _ _ _ _ (right_facts ha).2 (right_facts hb).2]
  unfold lessK
  by_cases h : cmpL a.L b.L = 0
  · rw [if_pos h]
    apply decide_eq_decide.2
    rw [or3_neg]; omega
  · rw [if_neg h]
    apply decide_eq_decide.2
    rw [or3_neg]; omega
theorem kb_len (L : List ByteArray) (f g : Int) : (kb L f g).length = (jn L).length + 9 := by unfold kb; simp [nb_len]
/-- No one's are another one's front. -/
theorem kb_front (a b : Ky) (h : (kb b.L b.f b.g).take (kb a.L a.f a.g).length = kb a.L a.f a.g) : (kb b.L b.f b.g).length ≤ (kb a.L a.f a.g).length := by
  have h2 : kb a.L a.f a.g ++ (kb b.L b.f b.g).drop (kb a.L a.f a.g).length = kb b.L b.f b.g := by
    conv => lhs; lhs; rw [← h]
    rw [List.take_append_drop]
  generalize hC : (kb b.L b.f b.g).drop (kb a.L a.f a.g).length = C at h2
  rw [kb_form, kb_form, List.append_assoc, List.cons_append] at h2
  obtain ⟨h3, h4⟩ := jb_inj _ _ _ _ h2
  have := congrArg List.length h4
  simp [nb_len] at this
  have h5 := congrArg List.length hC
  rw [List.length_drop] at h5
  omega
end Go.Proofs.Ytbadjigfcncfcaa

/- The contract of key.Read. -/
namespace Go.Proofs.Ytbadjigfcncfcaa
open Go.RowKit

/-- What Read tells. -/
def rdF (l : List UInt8) : Option (List ByteArray × Int × Int) :=
  match pdF 5 l [] with
  | none => none
  | some (D, r) => if r.length = 9 then (if rightBK D (rnF r).1 ((r.getD 8 0).toNat : Int) = true then some (D, (rnF r).1, ((r.getD 8 0).toNat : Int)) else none) else none
theorem rdF_none {l : List UInt8} (h : pdF 5 l [] = none) : rdF l = none := by unfold rdF; rw [h]
theorem rdF_some {l r : List UInt8} {D : List ByteArray} (h : pdF 5 l [] = some (D, r)) : rdF l = if r.length = 9 then (if rightBK D (rnF r).1 ((r.getD 8 0).toNat : Int) = true then some (D, (rnF r).1, ((r.getD 8 0).toNat : Int)) else none) else none := by unfold rdF; rw [h]
theorem kfro {w w' : World} {x y z : Value} {t : TypeId} (h : Below (w.heap.size + 1) (w.alloc (.cells #[x, y, z] t)) w') : w'.frozen? ⟨w.heap.size, 0, none⟩ = false ∧ w'.frozen? ⟨w.heap.size, 1, none⟩ = false ∧ w'.frozen? ⟨w.heap.size, 2, none⟩ = false := by
  refine ⟨(h.frozen (p := ⟨w.heap.size, 0, none⟩) (by simp)).trans (by simp), (h.frozen (p := ⟨w.heap.size, 1, none⟩) (by simp)).trans (by simp), (h.frozen (p := ⟨w.heap.size, 2, none⟩) (by simp)).trans (by simp)⟩
theorem set3_below {B : Nat} {w w' : World} {b : Nat} {x y z : Value} (h : Below B w w') (hb : B ≤ b) : Below B w (((w'.setCell ⟨b, 0, none⟩ x).setCell ⟨b, 1, none⟩ y).setCell ⟨b, 2, none⟩ z) := ((h.setCell hb x).setCell hb y).setCell hb z
theorem SReads.set {w : World} {v : Value} {L : List ByteArray} {b o : Nat} {x : Value} (h : SReads w v L) (hb : ∀ k, v.ownBlock = some k → b < k) : SReads (w.setCell ⟨b, o, none⟩ x) v L := by
  rcases h with h | ⟨b', off, cap, h1, h2, h3, h4, h5, h6, h7⟩
  · exact .inl h
  · have hlt := hb b' (by rw [h1]; rfl)
    refine .inr ⟨b', off, cap, h1, h2, h3, h4, by simpa using h5, fun j hj => ?_, h7⟩
    exact (World.cell?_of_block (w := w) (w' := w.setCell ⟨b, o, none⟩ x) (a := ⟨b', off + j, none⟩) (Below.heap_setCell w ⟨b, o, none⟩ x b' (by simp; omega))).trans (h6 j hj)
theorem rnF9 {r : List UInt8} (h : r.length = 9) : (rnF r).2.1 = 8 ∧ (rnF r).2.2 = 0 ∧ -9223372036854775808 ≤ (rnF r).1 ∧ (rnF r).1 ≤ 9223372036854775807 := by
  unfold rnF
  rw [if_neg (by omega)]
  have hb := beval8 ((r.take 8).map fun x => (x.toNat : Int)) (by simp; omega) (by
    intro x hx
    obtain ⟨y, _, rfl⟩ := List.mem_map.1 hx
    have := y.toNat_lt
    omega)
  refine ⟨rfl, rfl, ?_, ?_⟩ <;> simp only <;> omega
set_option maxRecDepth 100000 in
set_option maxHeartbeats 2000000 in
theorem read_own (v : Value) (l : List UInt8) (hl : l.length ≤ 1000) (w : World) (h : Reads w v l) :
    Calls Try.prog 53 #[v] w fun e w' => (∃ D f g vd, rdF l = some (D, f, g) ∧ e = .returned (.tuple #[.agg #[vd, .int .i64 f, .int .i64 g], .int .i64 0]) ∧ KLies ⟨vd, D, f, g⟩ w' ∧ (∀ k, vd.ownBlock = some k → w.heap.size < k) ∧ Below w.heap.size w w') ∨ (rdF l = none ∧ e = .returned (.tuple #[.agg #[.slice none 0 0, .int .i64 0, .int .i64 0], .int .i64 40]) ∧ Below w.heap.size w w') := by
  obtain ⟨a, cap, rfl, _⟩ := h.form
  have HR0 := h.alloc (.cells #[.slice none 0 0, .int .i64 0, .int .i64 0] 73)
  have HX0 : Hid (Below (w.heap.size + 1) (w.alloc (.cells #[.slice none 0 0, .int .i64 0, .int .i64 0] 73)) (w.alloc (.cells #[.slice none 0 0, .int .i64 0, .int .i64 0] 73))) := Below.refl _ _
  clear h
  go_enter Try.func53, Try.ntmps53
  go_wp2_with fail
  refine (parted_some _ l hl _ HR0).mono ?_
  rintro e w1 (⟨D, r, vd, vr, hp, rfl, HO1, HR1, hb1⟩ | ⟨hp, rfl, hb1⟩)
  · have HX1 : Hid (Below (w.heap.size + 1) (w.alloc (.cells #[.slice none 0 0, .int .i64 0, .int .i64 0] 73)) w1) := hb1.mono (by simp)
    have HS1 : Hid (w.heap.size + 1 ≤ w1.heap.size) := by have := hb1.size; unfold Hid; simpa using this
    obtain ⟨ad, cd, rfl, _⟩ := HO1.reads.form
    obtain ⟨ar, cr, rfl, hrm⟩ := HR1.form
    unfold maxLen at hrm
    have HSR : Hid (SReads w1 (.slice ad D.length cd) D) := HO1.reads
    have HGB : Hid (∀ k, (Value.slice ad D.length cd).ownBlock = some k → w.heap.size < k) := fun k hk => by have := own_block HO1.1 k hk; simp at this; omega
    have HRR : Hid (Reads w1 (.slice ar r.length cr) r) := HR1
    have HF : Hid _ := rdF_some hp
    obtain ⟨k0, k1, k2⟩ := kbox HX1.out
    obtain ⟨z0, z1, z2⟩ := kfro HX1.out
    clear hb1 HX0 HR0 hp HO1 HR1
    by_cases h9 : r.length = 9
    · have j9 : ((r.length : Int) != 9) = false := by simp; omega
      have HF2 : Hid (rdF l = if rightBK D (rnF r).1 ((r.getD 8 0).toNat : Int) = true then some (D, (rnF r).1, ((r.getD 8 0).toNat : Int)) else none) := by rw [HF.out, if_pos h9]; rfl
      obtain ⟨q1, q2, q3, q4⟩ := rnF9 h9
      obtain ⟨b, off, rfl, hbw, hc8⟩ := HRR.out.at 8 (by omega)
      have HQ : Hid ((r.getD 8 0).toNat = (r[8]'(by omega)).toNat) := by simp [Hid, List.getD, h9]
      obtain ⟨y, HY⟩ := hid_ex (r[8]'(by omega))
      rw [← HY.out] at hc8 HQ
      rw [HQ.out] at HF2
      unfold bc at hc8
      have hyb : y.toNat < 256 := y.toNat_lt
      have i8 : (8 : Int) < (r.length : Int) := by omega
      clear HY HQ HF h9
      go_wp2_with fail
      refine (readNumber_any _ r _ HRR.out).mono ?_
      rw [q1, q2]
      rintro e w2 ⟨rfl, hb2⟩
      generalize (rnF r).1 = F at *
      have HX2 : Hid (Below (w.heap.size + 1) (w.alloc (.cells #[.slice none 0 0, .int .i64 0, .int .i64 0] 73)) w2) := HX1.out.trans (hb2.mono HS1.out)
      have HS2 : Hid (w.heap.size + 1 ≤ w2.heap.size) := Nat.le_trans HS1.out hb2.size
      have HSR2 : Hid (SReads w2 (.slice ad D.length cd) D) := HSR.out.below hb2
      have hc2 := (hb2.cell (p := ⟨b, off + 8, none⟩) hbw).trans hc8
      clear hb2 hc8 hbw HX1 HS1 HSR HRR k0 k1 k2 z0 z1 z2
      go_wp2_with fail
      have HK2 : KLies ⟨.slice ad D.length cd, D, F, (y.toNat : Int)⟩ (w2.alloc (.cells #[.slice ad D.length cd, .int .i64 F, .int .i64 (y.toNat : Int)] 73)) :=
        ⟨HSR2.out.below ((Below.refl _ _).alloc (Nat.le_refl _) _), q3, q4, by show (-9223372036854775808 : Int) ≤ (y.toNat : Int); omega, by show (y.toNat : Int) ≤ 9223372036854775807; omega⟩
      refine (right_anyK ⟨.slice ad D.length cd, D, F, (y.toNat : Int)⟩ _ HK2).mono ?_
      simp only
      rintro e w3 ⟨rfl, hb3⟩
      have HY3 : Hid (Below (w2.heap.size + 1) (w2.alloc (.cells #[.slice ad D.length cd, .int .i64 F, .int .i64 (y.toNat : Int)] 73)) w3) := hb3.mono (by simp)
      have HX3 : Hid (Below (w.heap.size + 1) (w.alloc (.cells #[.slice none 0 0, .int .i64 0, .int .i64 0] 73)) w3) := HX2.out.trans (((Below.refl _ _).alloc HS2.out _).trans (hb3.mono (by have := HS2.out; simp; omega)))
      have HK3 : Hid (KLies ⟨.slice ad D.length cd, D, F, (y.toNat : Int)⟩ w3) := HK2.below hb3
      obtain ⟨k0, k1, k2⟩ := kbox HX3.out
      obtain ⟨z0, z1, z2⟩ := kfro HX3.out
      obtain ⟨y0, y1, y2⟩ := kbox HY3.out
      have hne : ¬ w2.heap.size = w.heap.size := by have := HS2.out; omega
      clear hb3 HK2 HY3 hc2
      cases hrt : rightBK D F (y.toNat : Int) with
      | true =>
        have HN : Hid (rdF l = some (D, F, (y.toNat : Int))) := by rw [HF2.out, hrt]; rfl
        clear hrt HF2
        go_wp2_with fail
        refine bodyPost_ret (v := .tuple #[.agg #[.slice ad D.length cd, .int .i64 F, .int .i64 (y.toNat : Int)], .int .i64 0]) (by simp [results, Try.results53, go_sem, k0, k1, k2]) rfl (.inl ⟨D, F, (y.toNat : Int), _, HN.out, rfl, ?_, HGB.out, set3_below (box_below HX3.out) (Nat.le_refl _)⟩)
        exact ⟨((HK3.out.r.set HGB.out).set HGB.out).set HGB.out, HK3.out.f1, HK3.out.f2, HK3.out.g1, HK3.out.g2⟩
      | false =>
        have HN : Hid (rdF l = none) := by rw [HF2.out, hrt]; rfl
        clear hrt HF2 y0 y1 y2
        go_wp2_with fail
        refine bodyPost_ret (v := .tuple #[.agg #[.slice none 0 0, .int .i64 0, .int .i64 0], .int .i64 40]) (by simp [results, Try.results53, go_sem, k0, k1, k2]) rfl (.inr ⟨HN.out, rfl, set3_below (box_below HX3.out) (Nat.le_refl _)⟩)
    · have j9 : ((r.length : Int) != 9) = true := by simp; omega
      have HN : Hid (rdF l = none) := by rw [HF.out, if_neg h9]; rfl
      clear HF h9
      go_wp2_with fail
      refine bodyPost_ret (v := .tuple #[.agg #[.slice none 0 0, .int .i64 0, .int .i64 0], .int .i64 40]) (by simp [results, Try.results53, go_sem, k0, k1, k2]) rfl (.inr ⟨HN.out, rfl, set3_below (box_below HX1.out) (Nat.le_refl _)⟩)
  · have HN : Hid (rdF l = none) := rdF_none hp
    have HX1 : Hid (Below (w.heap.size + 1) (w.alloc (.cells #[.slice none 0 0, .int .i64 0, .int .i64 0] 73)) w1) := hb1.mono (by simp)
    obtain ⟨k0, k1, k2⟩ := kbox HX1.out
    obtain ⟨z0, z1, z2⟩ := kfro HX1.out
    clear hb1 HX0 HR0 hp
    go_wp2_with fail
    refine bodyPost_ret (v := .tuple #[.agg #[.slice none 0 0, .int .i64 0, .int .i64 0], .int .i64 40]) (by simp [results, Try.results53, go_sem, k0, k1, k2]) rfl (.inr ⟨HN.out, rfl, set3_below (box_below HX1.out) (Nat.le_refl _)⟩)
theorem read_any (v : Value) (l : List UInt8) (hl : l.length ≤ 1000) (w : World) (h : Reads w v l) :
    Calls Try.prog 53 #[v] w fun e w' => (∃ D f g vd, rdF l = some (D, f, g) ∧ e = .returned (.tuple #[.agg #[vd, .int .i64 f, .int .i64 g], .int .i64 0]) ∧ KLies ⟨vd, D, f, g⟩ w' ∧ Below w.heap.size w w') ∨ (rdF l = none ∧ e = .returned (.tuple #[.agg #[.slice none 0 0, .int .i64 0, .int .i64 0], .int .i64 40]) ∧ Below w.heap.size w w') := by
  refine (read_own v l hl w h).mono ?_
  rintro e w' (⟨D, f, g, vd, h1, h2, h3, _, h5⟩ | h)
  · exact .inl ⟨D, f, g, vd, h1, h2, h3, h5⟩
  · exact .inr h
end Go.Proofs.Ytbadjigfcncfcaa

/- Texts and numbers go there and back: no program in sight. -/
namespace Go.Proofs.Ytbadjigfcncfcaa

theorem rtF_step {x : UInt8} (t acc : List UInt8) (i : Nat) (hx : ¬ x.toNat = 0) (ht : t ≠ []) : rtF (x :: t) acc i = rtF t (acc ++ [x]) (i + 1) := by
  cases t with
  | nil => exact absurd rfl ht
  | cons y t => rw [rtF_cons2, if_neg hx]
theorem rtF_tx (s : List UInt8) : ∀ (m acc : List UInt8) i, rtF (txb s ++ 0 :: 1 :: m) acc i = (acc ++ s, i + (tx s).length, 0) := by
  induction s with
  | nil =>
    intro m acc i
    show rtF (0 :: 1 :: m) acc i = _
    rw [rtF_cons2, if_pos (by decide), if_neg (by decide), if_pos (by decide)]
    simp [tx, txb]
  | cons x s ih =>
    intro m acc i
    have hlen : (tx (x :: s)).length = (if x.toNat = 0 then 2 else 1) + (tx s).length := by
      unfold tx
      by_cases hx : x.toNat = 0
      · rw [txb_cons0 s hx, if_pos hx]; simp; omega
      · rw [txb_cons1 s hx, if_neg hx]; simp; omega
    by_cases hx : x.toNat = 0
    · rw [hlen, if_pos hx, txb_cons0 s hx]
      have ex : x = 0 := by rw [← u8_of hx]; rfl
      show rtF (0 :: 255 :: (txb s ++ 0 :: 1 :: m)) acc i = _
      rw [rtF_cons2, if_pos (by decide), if_pos (by decide), ih, ex]
      simp; omega
    · rw [hlen, if_neg hx, txb_cons1 s hx]
      show rtF (x :: (txb s ++ 0 :: 1 :: m)) acc i = _
      rw [rtF_step _ _ _ hx (by simp), ih]
      simp; omega
theorem foldl_bv (l : List UInt8) : ∀ p : Int, (l.map fun x => (x.toNat : Int)).foldl (fun n x => n * 256 + x) p = p * 256 ^ l.length + (bv l : Int) := by
  induction l with
  | nil => intro p; simp [bv]
  | cons x l ih =>
    intro p
    simp only [List.map_cons, List.foldl_cons]
    rw [ih]
    simp only [bv, List.length_cons]
    have e1 : (((x.toNat * 256 ^ l.length + bv l : Nat)) : Int) = (x.toNat : Int) * 256 ^ l.length + (bv l : Int) := by
      rw [Int.natCast_add, Int.natCast_mul, Int.natCast_pow]; rfl
    rw [e1, Int.pow_succ, Int.add_mul, Int.mul_assoc, Int.mul_comm 256 (256 ^ l.length)]
    omega
theorem rnF_nb (n : Int) (h1 : -9223372036854775808 ≤ n) (h2 : n ≤ 9223372036854775807) (m : List UInt8) : rnF (nb n ++ m) = (n, 8, 0) := by
  have hl := nb_len n
  unfold rnF
  rw [if_neg (by simp; omega)]
  have ht : (nb n ++ m).take 8 = nb n := by rw [List.take_append_of_le_length (by omega), List.take_of_length_le (by omega)]
  rw [ht]
  have hb := foldl_bv (nb n) 0
  have e : beval ((nb n).map fun x => (x.toNat : Int)) = (bv (nb n) : Int) := by
    unfold beval; rw [hb]; simp
  rw [e, bv_nb n h1 h2]
  congr 1
  omega
end Go.Proofs.Ytbadjigfcncfcaa

/- Keys go there and back, in one way alone: no program in sight. -/
namespace Go.Proofs.Ytbadjigfcncfcaa
open Go.RowKit Go.Joins

theorem pdF_jb (L : List ByteArray) : ∀ (n : Nat) (T : List UInt8) (A : List ByteArray), L.length < n → pdF n (jb L ++ 0 :: T) A = some (A ++ L, T) := by
  induction L with
  | nil =>
    intro n T A h
    cases n with
    | zero => simp at h
    | succ n => show pdF (n + 1) (0 :: T) A = _; rw [pdF, if_pos (by decide)]; simp
  | cons s L ih =>
    intro n T A h
    cases n with
    | zero => simp at h
    | succ n =>
      have e : rtF (tx s.data.toList ++ (jb L ++ 0 :: T)) [] 0 = (s.data.toList, (tx s.data.toList).length, 0) := by
        unfold tx
        simp only [List.append_assoc, List.cons_append, List.nil_append]
        rw [rtF_tx]
        simp [tx]
      rw [jb_cons, List.cons_append, List.append_assoc, pdF, if_neg (by decide), if_pos (by decide), e]
      simp only [if_true, List.drop_left]
      rw [ih n T _ (by simpa using h)]
      have e2 : (⟨s.data.toList.toArray⟩ : ByteArray) = s := by cases s; simp
      rw [e2]; simp
theorem pdF_taken (n : Nat) : ∀ (l : List UInt8) (A D : List ByteArray) (r : List UInt8), pdF n l A = some (D, r) → ∃ D', D = A ++ D' ∧ l = jb D' ++ 0 :: r := by
  induction n with
  | zero => intro l A D r h; simp [pdF] at h
  | succ n ih =>
    intro l A D r h
    cases l with
    | nil => simp [pdF] at h
    | cons x t =>
      rw [pdF] at h
      by_cases h0 : x.toNat = 0
      · rw [if_pos h0] at h
        simp at h
        obtain ⟨rfl, rfl⟩ := h
        have ex : x = 0 := u8_eq h0
        exact ⟨[], by simp, by rw [ex]; rfl⟩
      · rw [if_neg h0] at h
        by_cases h1 : x.toNat = 1
        · rw [if_pos h1] at h
          by_cases hE : (rtF t [] 0).2.2 = 0
          · rw [if_pos hE] at h
            obtain ⟨D', h2, h3⟩ := ih _ _ _ _ h
            have hf := rt_facts (l := t) (S := (rtF t [] 0).1) (N := (rtF t [] 0).2.1) (by rw [← hE])
            have ex : x = 1 := u8_eq h1
            refine ⟨⟨(rtF t [] 0).1.toArray⟩ :: D', by rw [h2]; simp, ?_⟩
            rw [jb_cons, ex, List.cons_append, List.append_assoc, ← h3]
            show 1 :: t = 1 :: (tx (rtF t [] 0).1.toArray.toList ++ _)
            rw [List.toList_toArray, hf.2.2.2, List.take_append_drop]
          · rw [if_neg hE] at h; simp at h
        · rw [if_neg h1] at h; simp at h
theorem rdF_kb (L : List ByteArray) (f g : Int) (h : rightBK L f g = true) : rdF (kb L f g) = some (L, f, g) := by
  obtain ⟨hm, h1, h2, h3, h4⟩ := right_facts h
  have hl := (mayB_iff.1 hm).1
  have hp : pdF 5 (kb L f g) [] = some (L, nb f ++ [UInt8.ofNat g.toNat]) := by
    rw [kb_form, pdF_jb L 5 _ [] (by omega)]; simp
  rw [rdF_some hp, if_pos (by simp [nb_len]), rnF_nb f (by omega) (by omega)]
  have e8 : ((nb f ++ [UInt8.ofNat g.toNat]).getD 8 0) = UInt8.ofNat g.toNat := by
    rw [List.getD_eq_getElem?_getD, List.getElem?_append_right (by rw [nb_len]; omega), nb_len]; rfl
  have e9 : ((UInt8.ofNat g.toNat).toNat : Int) = g := by rw [UInt8.toNat_ofNat']; omega
  rw [e8, e9]
  simp only
  rw [if_pos h]
theorem rdF_taken {l : List UInt8} {D : List ByteArray} {f g : Int} (h : rdF l = some (D, f, g)) : rightBK D f g = true ∧ kb D f g = l := by
  cases hp : pdF 5 l [] with
  | none => rw [rdF_none hp] at h; simp at h
  | some q =>
    obtain ⟨D', r⟩ := q
    rw [rdF_some hp] at h
    by_cases h9 : r.length = 9
    · rw [if_pos h9] at h
      by_cases hr : rightBK D' (rnF r).1 ((r.getD 8 0).toNat : Int) = true
      · rw [if_pos hr] at h
        simp only [Option.some.injEq, Prod.mk.injEq] at h
        obtain ⟨rfl, rfl, rfl⟩ := h
        refine ⟨hr, ?_⟩
        obtain ⟨D2, h2, h3⟩ := pdF_taken _ _ _ _ _ hp
        have e2 : D' = D2 := by simpa using h2
        subst e2
        rw [kb_form, h3]
        congr 2
        have hb := rnF9 h9
        have e4 : nb (rnF r).1 = r.take 8 := by
          refine bv_eq _ _ (by rw [nb_len]; simp; omega) ?_
          have e5 := bv_nb (rnF r).1 hb.2.2.1 hb.2.2.2
          have e6 : (rnF r).1 = (bv (r.take 8) : Int) - 9223372036854775808 := by
            unfold rnF
            rw [if_neg (by omega)]
            simp only
            have hbv := foldl_bv (r.take 8) 0
            unfold beval
            rw [hbv]; simp
          omega
        have e8 : UInt8.ofNat (((r.getD 8 0).toNat : Int)).toNat = r[8]'(by omega) := by
          have : r.getD 8 0 = r[8]'(by omega) := by simp [List.getD, h9]
          rw [this, Int.toNat_natCast]
          exact UInt8.ofNat_toNat ..
        rw [e4, e8]
        have := List.take_succ_eq_append_getElem (l := r) (i := 8) (by omega)
        rw [← this]
        exact List.take_of_length_le (by omega)
      · rw [if_neg hr] at h; simp at h
    · rw [if_neg h9] at h; simp at h
end Go.Proofs.Ytbadjigfcncfcaa

/- What comes of entries at a watermark: no program in sight. -/
namespace Go.Proofs.Ytbadjigfcncfcaa
open Go.RowKit

/-- The step of a time at a watermark. -/
noncomputable def stp (R : Rl) (t w : Int) : Nat := open Classical in if h : ∃ k, IsStep R t w k then h.choose else 0
theorem stp_is {R : Rl} (hR : RightP R) (t w : Int) : IsStep R t w (stp R t w) := by
  have h := step_exists hR t w
  unfold stp
  rw [dif_pos h]
  exact h.choose_spec
theorem stp_eq {R : Rl} (hR : RightP R) {t w : Int} {K : Nat} (h : IsStep R t w K) : stp R t w = K := (stp_is hR t w).uniq h
/-- How coarse a bucket is at a watermark, where it begins, whether it is gone. -/
noncomputable def stq (R : Rl) (w f : Int) (g : Nat) : Nat := max (stp R f w) g
noncomputable def flq (R : Rl) (w f : Int) (g : Nat) : Int := f - f % R.sz (stq R w f g)
def goneB (R : Rl) (w f : Int) : Bool := decide (endF f (R.sz (R.len - 1)) ≤ w - R.kp)
/-- A bucket of the rules. -/
structure Beg (R : Rl) (f : Int) (g : Nat) : Prop where
  gl : g < R.len
  t : isT f = true
  m : f % R.sz g = 0
theorem stepK {R : Rl} {t w v : Int} {K L : Nat} (hK : IsStep R t w K) (hL : IsStep R t v L) (h : w ≤ v) : K ≤ L := by
  rcases Nat.lt_or_ge L K with hlt | hge
  · exfalso
    rcases hK.2.1 with h0 | h0
    · omega
    · refine hL.2.2 K hlt hK.1 ?_
      unfold cnd at *; omega
  · exact hge
theorem one_step {R : Rl} (hR : RightP R) {f : Int} {g : Nat} (hb : Beg R f g) {w v : Int} (hwv : w ≤ v) : stq R v (flq R w f g) (stq R w f g) = stq R v f g ∧ flq R v (flq R w f g) (stq R w f g) = flq R v f g ∧ goneB R v (flq R w f g) = goneB R v f := by
  have hK := stp_is hR f w
  have hM := stp_is hR f v
  have hKM := stepK hK hM hwv
  rcases Nat.lt_or_ge g (stp R f w) with hlt | hge
  · have es : stq R w f g = stp R f w := by unfold stq; omega
    have hs1 := (isS_iff _).1 (sz_ok hR hK.1)
    have hq : f / R.sz (stp R f w) = flq R w f g / R.sz (stp R f w) := by
      unfold flq
      rw [es]
      have := in_bucket (t := f) (s := R.sz (stp R f w)) (y := 0) hs1.1 (Int.le_refl _) (by omega)
      rw [Int.add_zero] at this
      exact this.symm
    have hqM := quot_ge hR hq hKM hM.1
    have hst : stp R (flq R w f g) v = stp R f v := stp_eq hR (step_same hR hM hqM)
    have e1 : stq R v (flq R w f g) (stq R w f g) = stq R v f g := by
      rw [es]; unfold stq; rw [hst]; omega
    refine ⟨e1, ?_, ?_⟩
    · have e2 : stq R v f g = stp R f v := by unfold stq; omega
      show flq R w f g - flq R w f g % R.sz (stq R v (flq R w f g) (stq R w f g)) = f - f % R.sz (stq R v f g)
      rw [e1, e2]
      exact (fl_same hqM).symm
    · unfold goneB
      rw [end_same hR hq (j := R.len - 1) (by have := hK.1; omega) (by have := hK.1; omega)]
  · have es : stq R w f g = g := by unfold stq; omega
    have ef : flq R w f g = f := by unfold flq; rw [es, hb.m]; omega
    rw [es, ef]
    exact ⟨rfl, rfl, rfl⟩
theorem stq_lt {R : Rl} (hR : RightP R) {w f : Int} {g : Nat} (hg : g < R.len) : stq R w f g < R.len := by
  have := (stp_is hR f w).1
  unfold stq; omega
theorem flq_bd {R : Rl} (hR : RightP R) {f : Int} {g : Nat} (hg : g < R.len) (ht : isT f = true) (w : Int) : 0 ≤ flq R w f g ∧ flq R w f g ≤ f ∧ flq R w f g ≤ 1099511627776 := by
  have h1 := (isT_iff _).1 ht
  have h2 := (isS_iff _).1 (sz_ok hR (stq_lt hR (w := w) (f := f) hg))
  have h3 := mod_bd f (R.sz (stq R w f g)) h1.1 h2.1
  unfold flq
  omega
theorem beg_next {R : Rl} (hR : RightP R) {f : Int} {g : Nat} (hg : g < R.len) (ht : isT f = true) (w : Int) : Beg R (flq R w f g) (stq R w f g) := by
  have h := flq_bd hR hg ht w
  refine ⟨stq_lt hR hg, (isT_iff _).2 ⟨h.1, h.2.2⟩, ?_⟩
  unfold flq
  rw [fl_eq]
  exact Int.mul_emod_right ..
theorem gone_mono {R : Rl} {w v f : Int} (h : w ≤ v) (hg : goneB R w f = true) : goneB R v f = true := by
  unfold goneB at *
  simp only [decide_eq_true_eq] at *
  omega
/-- A key of the rules. -/
def FitK (R : Rl) (k : Ks) : Prop := ∃ D f g, rdF k = some (D, f, g) ∧ Beg R f g.toNat
/-- A key at a watermark. -/
noncomputable def fk (R : Rl) (w : Int) (k : Ks) : Option Ks := match rdF k with
  | none => none
  | some (D, f, g) => if goneB R w f then none else some (kb D (flq R w f g.toNat) ((stq R w f g.toNat : Nat) : Int))
theorem fk_of {R : Rl} {w : Int} {k : Ks} {D : List ByteArray} {f g : Int} (h : rdF k = some (D, f, g)) : fk R w k = if goneB R w f then none else some (kb D (flq R w f g.toNat) ((stq R w f g.toNat : Nat) : Int)) := by
  unfold fk; rw [h]
theorem rdF_key {k : Ks} {D : List ByteArray} {f g : Int} (h : rdF k = some (D, f, g)) : mayB D = true ∧ 0 ≤ f ∧ f ≤ 1099511627776 ∧ 0 ≤ g ∧ g ≤ 3 := by
  have h1 := (rdF_taken h).1
  obtain ⟨h2, h3, h4, h5, h6⟩ := right_facts h1
  exact ⟨h2, h3, h4, h5, h6⟩
theorem right_next {R : Rl} (hR : RightP R) {k : Ks} {D : List ByteArray} {f g : Int} (h : rdF k = some (D, f, g)) (hg : g.toNat < R.len) (w : Int) : rightBK D (flq R w f g.toNat) ((stq R w f g.toNat : Nat) : Int) = true := by
  obtain ⟨h1, h2, h3, h4, h5⟩ := rdF_key h
  have ht : isT f = true := (isT_iff _).2 ⟨h2, h3⟩
  have hf := flq_bd hR hg ht w
  have hs := stq_lt hR (w := w) (f := f) hg
  have h4' := hR.2.1
  unfold rightBK
  rw [h1, Bool.true_and, decide_eq_true_eq]
  omega
theorem fk_next {R : Rl} (hR : RightP R) {w : Int} {k k' : Ks} (hf : FitK R k) (h : fk R w k = some k') : FitK R k' ∧ ∃ D f g, rdF k = some (D, f, g) ∧ rdF k' = some (D, flq R w f g.toNat, ((stq R w f g.toNat : Nat) : Int)) ∧ goneB R w f = false ∧ Beg R f g.toNat := by
  obtain ⟨D, f, g, hr, hb⟩ := hf
  rw [fk_of hr] at h
  by_cases hg : goneB R w f = true
  · rw [if_pos hg] at h; cases h
  · rw [if_neg hg] at h
    simp only [Option.some.injEq] at h
    subst h
    have h2 := rdF_kb D _ _ (right_next hR hr hb.gl w)
    refine ⟨⟨D, _, _, h2, ?_⟩, D, f, g, hr, h2, by simpa using hg, hb⟩
    rw [Int.toNat_natCast]
    exact beg_next hR hb.gl hb.t w
/-- LATER IS COARSER, of one key. -/
theorem fk_later {R : Rl} (hR : RightP R) {w v : Int} (hwv : w ≤ v) {k : Ks} (hf : FitK R k) : (fk R w k).bind (fk R v) = fk R v k := by
  obtain ⟨D, f, g, hr, hb⟩ := hf
  rw [fk_of hr, fk_of hr]
  by_cases hg : goneB R w f = true
  · rw [if_pos hg, if_pos (gone_mono hwv hg)]; rfl
  · rw [if_neg hg]
    have h2 := rdF_kb D _ _ (right_next hR hr hb.gl w)
    show fk R v _ = _
    rw [fk_of h2, Int.toNat_natCast]
    obtain ⟨e1, e2, e3⟩ := one_step hR hb hwv
    rw [e1, e2, e3]
theorem fk_self {R : Rl} (hR : RightP R) {w : Int} {k k' : Ks} (hf : FitK R k) (h : fk R w k = some k') : fk R w k' = some k' := by
  have := fk_later hR (Int.le_refl w) hf
  rw [h] at this
  exact this
/-- An entry that fits the rules. -/
structure FitE (R : Rl) (x : En) : Prop where
  k : FitK R x.1
  c : x.2.c ≠ 0
  r : rightB x.2 = true
def FitL (R : Rl) (L : List En) : Prop := ∀ x ∈ L, FitE R x
theorem mrg_pos {a b : Ag} (ha : Gd a) (hb : Gd b) (h1 : a.c ≠ 0) : (mrg a b).c ≠ 0 := by
  by_cases h2 : b.c = 0
  · have e : mrg a b = a := by unfold mrg; rw [if_neg h1, if_pos h2]
    rw [e]; exact h1
  · rw [mrg_both a b h1 h2]
    dsimp only
    have c1 := ha.c.1
    have c2 := hb.c.1
    unfold cntF
    split <;> omega
def PosE (L : List En) : Prop := ∀ x ∈ L, x.2.c ≠ 0
theorem ins_pos {x : En} (hx : Gd x.2) (hp : x.2.c ≠ 0) : ∀ {L : List En}, GdE L → PosE L → PosE (ins x L)
  | [], _, _ => fun y hy => by unfold ins at hy; simp at hy; rw [hy]; exact hp
  | y :: L, hg, h => by
    have hg' := GdE.cons.1 hg
    unfold ins
    split
    · intro z hz
      rcases List.mem_cons.1 hz with rfl | hz
      · exact hp
      · exact h z hz
    · split
      · intro z hz
        rcases List.mem_cons.1 hz with rfl | hz
        · exact mrg_pos hx hg'.1 hp
        · exact h z (List.mem_cons_of_mem _ hz)
      · intro z hz
        rcases List.mem_cons.1 hz with rfl | hz
        · exact h z (List.mem_cons_self ..)
        · exact ins_pos hx hp hg'.2 (fun u hu => h u (List.mem_cons_of_mem _ hu)) z hz
theorem can_pos : ∀ {A : List En}, GdE A → PosE A → PosE (can A)
  | [], _, _ => fun _ h => by cases h
  | x :: A, hg, h => by
    have hg' := GdE.cons.1 hg
    exact ins_pos hg'.1 (h x (List.mem_cons_self ..)) (can_gd hg'.2) (can_pos hg'.2 (fun u hu => h u (List.mem_cons_of_mem _ hu)))
theorem fm_mem {f : Ks → Option Ks} {M : List En} {y : En} (h : y ∈ fm f M) : ∃ x ∈ M, f x.1 = some y.1 ∧ y.2 = x.2 := by
  unfold fm at h
  obtain ⟨x, hx, e⟩ := List.mem_filterMap.1 h
  cases hf : f x.1 with
  | none => rw [hf] at e; cases e
  | some k =>
    rw [hf] at e
    simp only [Option.map_some, Option.some.injEq] at e
    subst e
    exact ⟨x, hx, hf, rfl⟩
theorem fm_len (f : Ks → Option Ks) (M : List En) : (fm f M).length ≤ M.length := List.length_filterMap_le _ _
/-- Entries at a watermark. -/
noncomputable def foldF (R : Rl) (w : Int) (L : List En) : List En := can (fm (fk R w) L)
theorem foldF_gd {R : Rl} {w : Int} {L : List En} (h : GdE L) : GdE (foldF R w L) := can_gd (fm_gd _ h)
theorem foldF_srt (R : Rl) (w : Int) (L : List En) : SrtE (foldF R w L) := can_srt _
theorem foldF_len (R : Rl) (w : Int) (L : List En) : (foldF R w L).length ≤ L.length := Nat.le_trans (can_len _) (fm_len _ _)
theorem foldF_key {R : Rl} {w : Int} {L : List En} {y : En} (h : y ∈ foldF R w L) : ∃ x ∈ L, fk R w x.1 = some y.1 := by
  obtain ⟨z, hz, e⟩ := can_mem h
  obtain ⟨x, hx, e2, _⟩ := fm_mem hz
  exact ⟨x, hx, by rw [e2, e]⟩
theorem foldF_fit {R : Rl} (hR : RightP R) {w : Int} {L : List En} (hg : GdE L) (h : FitL R L) : FitL R (foldF R w L) := by
  intro y hy
  obtain ⟨x, hx, e⟩ := foldF_key hy
  refine ⟨(fk_next hR (h x hx).k e).1, ?_, (foldF_gd hg y hy).r⟩
  refine can_pos (fm_gd _ hg) ?_ y hy
  intro z hz
  obtain ⟨u, hu, _, e2⟩ := fm_mem hz
  rw [e2]; exact (h u hu).c
theorem foldF_fix {R : Rl} (hR : RightP R) {w : Int} {L : List En} (h : FitL R L) : ∀ y ∈ foldF R w L, fk R w y.1 = some y.1 := by
  intro y hy
  obtain ⟨x, hx, e⟩ := foldF_key hy
  exact fk_self hR (h x hx).k e
theorem fm_fm (f g : Ks → Option Ks) (M : List En) : fm g (fm f M) = fm (fun k => (f k).bind g) M := by
  induction M with
  | nil => rfl
  | cons x M ih =>
    rw [fm_cons, fm_cons]
    cases hf : f x.1 with
    | none => simp only [Option.bind_none]; exact ih
    | some k =>
      simp only [Option.bind_some]
      rw [fm_cons]
      cases g k with
      | none => exact ih
      | some m => rw [ih]
theorem fm_congr {f g : Ks → Option Ks} : ∀ {M : List En}, (∀ x ∈ M, f x.1 = g x.1) → fm f M = fm g M
  | [], _ => rfl
  | x :: M, h => by
    rw [fm_cons, fm_cons, h x (List.mem_cons_self ..), fm_congr (fun y hy => h y (List.mem_cons_of_mem _ hy))]
theorem fm_id {f : Ks → Option Ks} : ∀ {M : List En}, (∀ x ∈ M, f x.1 = some x.1) → fm f M = M
  | [], _ => rfl
  | x :: M, h => by
    rw [fm_cons, h x (List.mem_cons_self ..), fm_id (fun y hy => h y (List.mem_cons_of_mem _ hy))]
/-- LATER IS COARSER. -/
theorem foldF_later {R : Rl} (hR : RightP R) {w v : Int} (hwv : w ≤ v) {L : List En} (hg : GdE L) (h : FitL R L) : foldF R v (foldF R w L) = foldF R v L := by
  unfold foldF
  show ap (fm (fk R v) (can _)) [] = _
  rw [can_fm (fk R v) (fm_gd _ hg) GdE.nil, fm_fm, fm_congr (fun x hx => fk_later hR hwv (h x hx).k)]; rfl
theorem foldF_id {R : Rl} {w : Int} {L : List En} (hs : SrtE L) (h : ∀ x ∈ L, fk R w x.1 = some x.1) : foldF R w L = L := by
  unfold foldF
  rw [fm_id h, can_id hs]
/-- Folding parts, and all that comes together, is folding all. -/
theorem foldF_parts {R : Rl} (hR : RightP R) {w u v : Int} (h1 : u ≤ w) (h2 : v ≤ w) {A B : List En} (gA : GdE A) (gB : GdE B) (fA : FitL R A) (fB : FitL R B) :
    foldF R w (can (foldF R u A ++ foldF R v B)) = foldF R w (can (A ++ B)) := by
  have e : ∀ {M : List En}, GdE M → foldF R w (can M) = foldF R w M := fun {M} hM => can_fm (fk R w) hM GdE.nil
  rw [e (GdE.app.2 ⟨foldF_gd gA, foldF_gd gB⟩), e (GdE.app.2 ⟨gA, gB⟩)]
  unfold foldF
  rw [fm_app, fm_app, ← can_two (fm_gd _ (can_gd (fm_gd _ gA))) (fm_gd _ (can_gd (fm_gd _ gB))), ← can_two (fm_gd _ gA) (fm_gd _ gB)]
  have e1 := foldF_later hR h1 gA fA
  have e2 := foldF_later hR h2 gB fB
  unfold foldF at e1 e2
  rw [e1, e2]
/-- What forbids to fold. -/
noncomputable def chkF (R : Rl) (w : Int) (L : List En) : Int := open Classical in if fE R 0 w ≠ 0 then fE R 0 w else if SrtE L then (if FitL R L then 0 else 3) else 50
theorem chkF_ok {R : Rl} {w : Int} {L : List En} (h : chkF R w L = 0) : fE R 0 w = 0 ∧ RightP R ∧ isT w = true ∧ SrtE L ∧ FitL R L := by
  unfold chkF at h
  split at h
  · rename_i h1; exact absurd h h1
  · rename_i h1
    have h1' : fE R 0 w = 0 := Classical.not_not.1 h1
    obtain ⟨a, _, b⟩ := fE_ok h1'
    split at h
    · rename_i h2
      split at h
      · rename_i h3
        exact ⟨h1', a, b, h2, h3⟩
      · cases h
    · cases h
theorem chkF_of {R : Rl} {w : Int} {L : List En} (h1 : fE R 0 w = 0) (h2 : SrtE L) (h3 : FitL R L) : chkF R w L = 0 := by
  unfold chkF
  rw [if_neg (fun h => h h1), if_pos h2, if_pos h3]
/-- Would folding change them? -/
noncomputable def staleF (R : Rl) (w : Int) (L : List En) : Bool := L.any fun x => decide (fk R w x.1 ≠ some x.1)
theorem staleF_no {R : Rl} {w : Int} {L : List En} (h : staleF R w L = false) : ∀ x ∈ L, fk R w x.1 = some x.1 := by
  intro x hx
  unfold staleF at h
  rw [List.any_eq_false] at h
  have := h x hx
  simpa using this
theorem staleF_of {R : Rl} {w : Int} {L : List En} (h : ∀ x ∈ L, fk R w x.1 = some x.1) : staleF R w L = false := by
  unfold staleF
  rw [List.any_eq_false]
  intro x hx
  simp [h x hx]
theorem fk_stale {R : Rl} (hR : RightP R) {w : Int} {k : Ks} {D : List ByteArray} {f g : Int} (hr : rdF k = some (D, f, g)) (hg : g.toNat < R.len) : (fk R w k = some k) ↔ (flq R w f g.toNat = f ∧ ((stq R w f g.toNat : Nat) : Int) = g ∧ goneB R w f = false) := by
  rw [fk_of hr]
  have hk := (rdF_taken hr).2
  constructor
  · intro h
    by_cases hgo : goneB R w f = true
    · rw [if_pos hgo] at h; cases h
    · rw [if_neg hgo] at h
      simp only [Option.some.injEq] at h
      have h2 := rdF_kb D _ _ (right_next hR hr hg w)
      rw [h, hr] at h2
      simp only [Option.some.injEq, Prod.mk.injEq, true_and] at h2
      exact ⟨h2.1.symm, h2.2.symm, by simpa using hgo⟩
  · rintro ⟨h1, h2, h3⟩
    rw [h3, h1, h2]
    simp [hk]
end Go.Proofs.Ytbadjigfcncfcaa

/- The contracts of fold's fault, begins and fateOf. -/
namespace Go.Proofs.Ytbadjigfcncfcaa
open Go.RowKit

theorem step_all (R : Rl) (t wm : Int) : ∃ K, Hid (fE R t wm = 0 → IsStep R t wm K) := by
  by_cases h0 : fE R t wm = 0
  · obtain ⟨K, hK⟩ := step_exists (fE_ok h0).1 t wm; exact ⟨K, fun _ => hK⟩
  · exact ⟨0, fun h => absurd h h0⟩
set_option maxRecDepth 100000 in
set_option maxHeartbeats 1000000 in
theorem fault15_any (R : Rl) (wm : Int) (w : World) (hL : Lies R w.heap.size w) :
    Calls Try.prog 32 #[.agg #[.slice R.a R.len R.cap, .int .i64 R.kp], .int .i64 wm] w fun e w' => e = .returned (.int .i64 (fE R 0 wm)) ∧ Below w.heap.size w w' := by
  obtain ⟨K, HK⟩ := step_all R 0 wm
  have HL : Hid (Lies R w.heap.size w) := hL
  have HB0 : Hid (Below w.heap.size w (w.alloc (.cells #[.slice R.a R.len R.cap, .int .i64 R.kp] 33))) := new_below _ _
  have HX0 : Hid (RBox R w.heap.size (w.alloc (.cells #[.slice R.a R.len R.cap, .int .i64 R.kp] 33))) := RBox.new R w _
  have HL0 : Hid (Lies R (w.alloc (.cells #[.slice R.a R.len R.cap, .int .i64 R.kp] 33)).heap.size (w.alloc (.cells #[.slice R.a R.len R.cap, .int .i64 R.kp] 33))) := HL.out.at HB0.out
  clear hL
  go_enter Try.func32, Try.ntmps32
  go_wp2_with fail
  refine (step_any R 0 wm K HK.out _ HL0.out).mono ?_
  rintro e w1 ⟨rfl, hb1⟩
  have HB1 : Hid (Below w.heap.size w w1) := HB0.out.trans (hb1.mono HB0.out.size)
  have HX1 : Hid (RBox R w.heap.size w1) := HX0.out.below hb1
  have HL1 : Hid (Lies R w1.heap.size w1) := HL.out.at HB1.out
  clear hb1
  (try clear c0 c1)
  obtain ⟨_, c0, c1⟩ := HX1.out
  go_wp2_with fail
  go_ret
  exact ⟨rfl, HB1.out⟩
/-- Is a bucket one of the rules'? -/
def begB (R : Rl) (f : Int) (n : Nat) : Bool := decide (n < R.len) && (isT f && isS (R.sz n)) && decide (f - f % R.sz n = f)
theorem begB_iff {R : Rl} (hR : RightP R) {f : Int} {n : Nat} : begB R f n = true ↔ Beg R f n := by
  unfold begB
  simp only [Bool.and_eq_true, decide_eq_true_eq]
  constructor
  · rintro ⟨⟨h1, h2, h3⟩, h4⟩
    exact ⟨h1, h2, by omega⟩
  · intro h
    exact ⟨⟨h.gl, h.t, sz_ok hR h.gl⟩, by rw [h.m]; omega⟩
/-- The two boxes. -/
theorem two_box {w : World} {x0 x1 y0 y1 y2 : Value} {t u : TypeId} : ((w.alloc (.cells #[x0, x1] t)).alloc (.cells #[y0, y1, y2] u)).heap[w.heap.size]? = some (.cells #[x0, x1] t) ∧ ((w.alloc (.cells #[x0, x1] t)).alloc (.cells #[y0, y1, y2] u)).heap[w.heap.size + 1]? = some (.cells #[y0, y1, y2] u) := by
  constructor
  · rw [Below.heap_alloc _ _ _ (by simp)]; exact heap_alloc_new _ _
  · have := heap_alloc_new (w.alloc (.cells #[x0, x1] t)) (.cells #[y0, y1, y2] u)
    simpa using this
set_option maxRecDepth 100000 in
set_option maxHeartbeats 1000000 in
theorem begins_any (R : Rl) (va : Option Addr) (vn vc : Nat) (f : Int) (n : Nat) (hn : n ≤ 255) (w : World) (hL : Lies R w.heap.size w) :
    Calls Try.prog 54 #[.agg #[.slice R.a R.len R.cap, .int .i64 R.kp], .agg #[.slice va vn vc, .int .i64 f, .int .i64 (n : Int)]] w fun e w' => e = .returned (.bool (begB R f n)) ∧ Below w.heap.size w w' := by
  have hml : R.len ≤ maxLen := hL.1
  unfold maxLen at hml
  by_cases h1 : R.len ≤ n
  · have HB : Hid (begB R f n = false) := by unfold Hid begB; rw [decide_eq_false (by omega)]; rfl
    clear hL
    go_enter Try.func54, Try.ntmps54
    go_wp2_with fail
    go_ret
    exact ⟨by rw [HB.out]; rfl, ((Below.refl _ _).alloc (Nat.le_refl _) _).alloc (by simp) _⟩
  · have hlt : n < R.len := by omega
    obtain ⟨b, off, ha, hbl, hcs⟩ : ∃ b off, R.a = some ⟨b, off, none⟩ ∧ b < w.heap.size ∧ ∀ i, i < R.len → w.cell? ⟨b, off + i * 2, none⟩ = some (.int .i64 (R.sz i)) ∧ w.cell? ⟨b, off + i * 2 + 1, none⟩ = some (.int .i64 (R.ag i)) := by
      rcases hL.2.2 with h | h
      · omega
      · exact h
    have HB : Hid (begB R f n = ((isT f && isS (R.sz n)) && decide (f - f % R.sz n = f))) := by unfold Hid begB; rw [decide_eq_true hlt]; rfl
    rw [ha]
    have cz := (hcs n hlt).1
    have hbl2 : b ≠ w.heap.size := by omega
    have hbl3 : b ≠ w.heap.size + 1 := by omega
    have HBL : Hid (b < w.heap.size) := hbl
    clear hcs hL ha
    obtain ⟨w2, HW2⟩ := hid_ex ((w.alloc (.cells #[.slice (some ⟨b, off, none⟩) R.len R.cap, .int .i64 R.kp] 33)).alloc (.cells #[.slice va vn vc, .int .i64 f, .int .i64 (n : Int)] 73))
    have HB2 : Hid (Below w.heap.size w w2) := by rw [HW2.out]; exact ((Below.refl _ _).alloc (Nat.le_refl _) _).alloc (by simp) _
    have hx0 := (two_box (w := w) (x0 := .slice (some ⟨b, off, none⟩) R.len R.cap) (x1 := .int .i64 R.kp) (y0 := .slice va vn vc) (y1 := .int .i64 f) (y2 := .int .i64 (n : Int)) (t := 33) (u := 73))
    rw [← HW2.out] at hx0
    have k0 : w2.cell? ⟨w.heap.size, 0, none⟩ = some (.slice (some ⟨b, off, none⟩) R.len R.cap) := by rw [Go.Joins.cell_of_block hx0.1]; rfl
    have k1 : w2.cell? ⟨w.heap.size + 1, 1, none⟩ = some (.int .i64 f) := by rw [Go.Joins.cell_of_block hx0.2]; rfl
    have k2 : w2.cell? ⟨w.heap.size + 1, 2, none⟩ = some (.int .i64 (n : Int)) := by rw [Go.Joins.cell_of_block hx0.2]; rfl
    have k3 : w2.cell? ⟨b, off + n * 2, none⟩ = some (.int .i64 (R.sz n)) := (HB2.out.cell (p := ⟨b, off + n * 2, none⟩) hbl).trans cz
    obtain ⟨s, Hs⟩ := hid_ex (R.sz n)
    rw [← Hs.out] at k3 HB
    clear cz hx0 hbl hbl2 hbl3
    by_cases ht : isT f && isS s
    · have HV : Hid (floorV f s = .tuple #[.int .i64 (f - f % s), .int .i64 0]) := by unfold Hid floorV; rw [if_pos ht, if_pos ht]
      rw [ht, Bool.true_and] at HB
      obtain ⟨fr, Hfr⟩ := hid_ex (f - f % s)
      rw [← Hfr.out] at HV HB
      clear ht Hfr
      go_enter Try.func54, Try.ntmps54
      go_wp2_with fail
      rw [← HW2.out]
      go_quiet (exact (floor_any f s _).mono (fun e w h => ⟨by rw [h.1, HV.out], _, h.2⟩))
      obtain ⟨w3, HW3⟩ := hid_ex (w2.drewN nq)
      have HB3 : Hid (Below w.heap.size w w3) := by rw [HW3.out]; exact below_drewN HB2.out nq
      have j1 : w3.cell? ⟨w.heap.size + 1, 1, none⟩ = some (.int .i64 f) := by rw [HW3.out]; exact k1
      rw [← HW3.out]
      clear k0 k1 k2 k3 HW3
      go_wp2_with fail
      go_ret
      exact ⟨by rw [HB.out]; congr 2, HB3.out⟩
    · have hf := Bool.not_eq_true _ ▸ ht
      have HV : Hid (floorV f s = .tuple #[.int .i64 0, .int .i64 1]) := by unfold Hid floorV; rw [if_neg ht, if_neg ht]
      rw [hf, Bool.false_and] at HB
      clear ht hf
      go_enter Try.func54, Try.ntmps54
      go_wp2_with fail
      rw [← HW2.out]
      go_quiet (exact (floor_any f s _).mono (fun e w h => ⟨by rw [h.1, HV.out], _, h.2⟩))
      obtain ⟨w3, HW3⟩ := hid_ex (w2.drewN nq)
      have HB3 : Hid (Below w.heap.size w w3) := by rw [HW3.out]; exact below_drewN HB2.out nq
      rw [← HW3.out]
      clear k0 k1 k2 k3 HW3
      go_wp2_with fail
      go_ret
      exact ⟨by rw [HB.out]; rfl, HB3.out⟩
/-- What fateOf tells. -/
noncomputable def fateV (R : Rl) (wm f : Int) (g : Nat) : Value := .agg #[.int .i64 (flq R wm f g), .int .i64 ((stq R wm f g : Nat) : Int), .bool (goneB R wm f)]
set_option maxRecDepth 100000 in
set_option maxHeartbeats 2000000 in
theorem fateOf_any (R : Rl) (hR : RightP R) (wm : Int) (hwm : isT wm = true) (va : Option Addr) (vn vc : Nat) (f : Int) (g : Nat) (ht : isT f = true) (hg : g < R.len) (w : World) (hL : Lies R w.heap.size w) :
    Calls Try.prog 29 #[.agg #[.slice R.a R.len R.cap, .int .i64 R.kp], .int .i64 wm, .agg #[.slice va vn vc, .int .i64 f, .int .i64 (g : Int)]] w fun e w' => e = .returned (fateV R wm f g) ∧ Below w.heap.size w w' := by
  have h4 := hR.2.1
  have hml : R.len ≤ maxLen := hL.1
  unfold maxLen at hml
  obtain ⟨b, off, ha, hbl, hcs⟩ : ∃ b off, R.a = some ⟨b, off, none⟩ ∧ b < w.heap.size ∧ ∀ i, i < R.len → w.cell? ⟨b, off + i * 2, none⟩ = some (.int .i64 (R.sz i)) ∧ w.cell? ⟨b, off + i * 2 + 1, none⟩ = some (.int .i64 (R.ag i)) := by
    rcases hL.2.2 with h | h
    · omega
    · exact h
  have HK : Hid (fE R f wm = 0 → IsStep R f wm (stp R f wm)) := fun _ => stp_is hR f wm
  have hF := fE_of hR ht hwm
  have HS : Hid (∀ W, Lies R W.heap.size W → Calls Try.prog 52 #[.agg #[.slice (some ⟨b, off, none⟩) R.len R.cap, .int .i64 R.kp], .int .i64 f, .int .i64 wm] W fun e w' => e = .returned (.tuple #[.int .i64 ((stp R f wm : Nat) : Int), .int .i64 0]) ∧ Below W.heap.size W w') := by
    intro W hW
    have := step_any R f wm _ HK.out W hW
    unfold stA at this
    rw [if_pos hF, hF, ha] at this
    exact this
  have HE : Hid (∀ W, Lies R W.heap.size W → Calls Try.prog 20 #[.agg #[.slice (some ⟨b, off, none⟩) R.len R.cap, .int .i64 R.kp], .int .i64 f, .int .i64 wm] W fun e w' => e = .returned (.tuple #[.bool (goneB R wm f), .int .i64 0]) ∧ Below W.heap.size W w') := by
    intro W hW
    have := expired_any R f wm W hW
    unfold exA at this
    rw [if_pos hF, hF, ha] at this
    exact this
  have hsl : stp R f wm < R.len := (stp_is hR f wm).1
  have hql : stq R wm f g < R.len := stq_lt hR hg
  have HVL : Hid (floorV f (R.sz (stq R wm f g)) = .tuple #[.int .i64 (flq R wm f g), .int .i64 0]) := by
    have h2 : isT f && isS (R.sz (stq R wm f g)) := by rw [ht, sz_ok hR hql]; rfl
    unfold Hid floorV; rw [if_pos h2, if_pos h2]; rfl
  have HQ : Hid (((stq R wm f g : Nat) : Int) = max ((stp R f wm : Nat) : Int) (g : Int)) := by unfold Hid stq; omega
  unfold fateV
  obtain ⟨gn, Hgn⟩ := hid_ex (goneB R wm f)
  rw [← Hgn.out] at HE ⊢
  have HL : Hid (Lies R w.heap.size w) := hL
  rw [ha]
  have cz := (hcs _ hql).1
  clear hcs hL ha hF HK Hgn
  obtain ⟨fr, Hfr⟩ := hid_ex (flq R wm f g)
  rw [← Hfr.out] at HVL ⊢
  obtain ⟨q, Hq⟩ := hid_ex (stq R wm f g)
  rw [← Hq.out] at HVL HQ cz hql ⊢
  obtain ⟨p, Hp⟩ := hid_ex (stp R f wm)
  rw [← Hp.out] at HS HQ hsl
  obtain ⟨s, Hs⟩ := hid_ex (R.sz q)
  rw [← Hs.out] at HVL cz
  clear Hfr Hq Hp Hs
  obtain ⟨w2, HW2⟩ := hid_ex (((w.alloc (.cells #[.slice (some ⟨b, off, none⟩) R.len R.cap, .int .i64 R.kp] 33)).alloc (.cells #[.slice va vn vc, .int .i64 f, .int .i64 (g : Int)] 73)).alloc (.cells #[.int .i64 0, .int .i64 0, .bool false] 77))
  have HB2 : Hid (Below w.heap.size w w2) := by rw [HW2.out]; exact (((Below.refl _ _).alloc (Nat.le_refl _) _).alloc (by simp) _).alloc (by simp; omega) _
  have hx0 := (two_box (w := w) (x0 := .slice (some ⟨b, off, none⟩) R.len R.cap) (x1 := .int .i64 R.kp) (y0 := .slice va vn vc) (y1 := .int .i64 f) (y2 := .int .i64 (g : Int)) (t := 33) (u := 73))
  have hx2 : w2.heap[w.heap.size]? = some (.cells #[.slice (some ⟨b, off, none⟩) R.len R.cap, .int .i64 R.kp] 33) := by rw [HW2.out, Below.heap_alloc _ _ _ (by simp; omega)]; exact hx0.1
  have hx3 : w2.heap[w.heap.size + 1]? = some (.cells #[.slice va vn vc, .int .i64 f, .int .i64 (g : Int)] 73) := by rw [HW2.out, Below.heap_alloc _ _ _ (by simp)]; exact hx0.2
  have hx4 : w2.heap[w.heap.size + 1 + 1]? = some (.cells #[.int .i64 0, .int .i64 0, .bool false] 77) := by rw [HW2.out]; have := heap_alloc_new ((w.alloc (.cells #[.slice (some ⟨b, off, none⟩) R.len R.cap, .int .i64 R.kp] 33)).alloc (.cells #[.slice va vn vc, .int .i64 f, .int .i64 (g : Int)] 73)) (.cells #[.int .i64 0, .int .i64 0, .bool false] 77); simpa using this
  have HCZ : Hid (w2.cell? ⟨b, off + q * 2, none⟩ = some (.int .i64 s)) := (HB2.out.cell (p := ⟨b, off + q * 2, none⟩) hbl).trans cz
  have HBX : Hid (∀ W, Below w2.heap.size w2 W → W.cell? ⟨w.heap.size, 0, none⟩ = some (.slice (some ⟨b, off, none⟩) R.len R.cap) ∧ W.cell? ⟨w.heap.size, 1, none⟩ = some (.int .i64 R.kp) ∧ W.cell? ⟨w.heap.size + 1, 1, none⟩ = some (.int .i64 f) ∧ W.cell? ⟨w.heap.size + 1, 2, none⟩ = some (.int .i64 (g : Int)) ∧ W.cell? ⟨b, off + q * 2, none⟩ = some (.int .i64 s) ∧ Lies R W.heap.size W ∧ Below w.heap.size w W ∧ W.heap[w.heap.size + 1 + 1]? = some (.cells #[.int .i64 0, .int .i64 0, .bool false] 77)) := by
    intro W hW
    have l2 := (Array.getElem?_eq_some_iff.1 hx2).1
    have l3 := (Array.getElem?_eq_some_iff.1 hx3).1
    have l4 := (Array.getElem?_eq_some_iff.1 hx4).1
    have y2 := (hW.block _ l2).trans hx2
    have y3 := (hW.block _ l3).trans hx3
    refine ⟨by rw [Go.Joins.cell_of_block y2]; rfl, by rw [Go.Joins.cell_of_block y2]; rfl, by rw [Go.Joins.cell_of_block y3]; rfl, by rw [Go.Joins.cell_of_block y3]; rfl, (hW.cell (p := ⟨b, _, none⟩) (by show b < w2.heap.size; omega)).trans HCZ.out, HL.out.at (HB2.out.trans (hW.mono (by omega))), HB2.out.trans (hW.mono (by omega)), (hW.block _ l4).trans hx4⟩
  clear hx0 hx2 hx3 hx4 cz HCZ HL
  obtain ⟨k0, k1, k2, k3, _, hl2, _, _⟩ := HBX.out w2 (Below.refl _ _)
  go_enter Try.func29, Try.ntmps29
  go_wp2_with fail
  rw [← HW2.out]
  refine (HS.out _ hl2).mono ?_
  rintro e w3 ⟨rfl, hb3⟩
  obtain ⟨j0, j1, j2, j3, j4, hl3, _, _⟩ := HBX.out w3 hb3
  have HW3 : Hid (Below w2.heap.size w2 w3) := hb3
  clear k0 k1 k2 k3 hb3 hl2
  have hcase : (p < g ∧ q = g) ∨ (¬ p < g ∧ q = p) := by have := HQ.out; omega
  clear HQ
  rcases hcase with ⟨hpg, rfl⟩ | ⟨hpg, rfl⟩
  all_goals
    go_wp2_with fail
    go_quiet (exact (floor_any f s _).mono (fun e w h => ⟨by rw [h.1, HVL.out], _, h.2⟩))
    obtain ⟨w4, HW4⟩ := hid_ex (w3.drewN nq)
    have hb4 : Below w2.heap.size w2 w4 := by rw [HW4.out]; exact below_drewN HW3.out nq
    clear j0 j1 j2 j3 j4 hl3
    obtain ⟨k0, k1, k2, k3, _, hl4, _, _⟩ := HBX.out w4 hb4
    rw [← HW4.out]
    have HB4 : Hid _ := hb4
    clear HW4 hb4
    go_wp2_with fail
    refine (HE.out _ hl4).mono ?_
    rintro e w5 ⟨rfl, hb5⟩
    have hb5' := HB4.out.trans (hb5.mono HB4.out.size)
    obtain ⟨_, _, _, _, _, _, hb6, hx6⟩ := HBX.out w5 hb5'
    have HB6 : Hid _ := hb6
    have f0 := (cell_row hx6 0 (by simp)).2
    have f1 := (cell_row hx6 1 (by simp)).2
    have f2 := (cell_row hx6 2 (by simp)).2
    have g0 := (cell_row hx6 0 (by simp)).1
    have g1 := (cell_row hx6 1 (by simp)).1
    have g2 := (cell_row hx6 2 (by simp)).1
    clear k0 k1 k2 k3 hl4 hb5 hb5' hb6 hx6 HBX HS HE HW3 HB4
    go_wp2_with fail
    refine bodyPost_ret (v := .agg #[.int .i64 fr, .int .i64 (q : Int), .bool gn]) (by simp [results, Try.results29, go_sem, g0, g1, g2]) rfl ⟨rfl, ?_⟩
    exact ((HB6.out.setCell (by simp; omega) _).setCell (by simp; omega) _).setCell (by simp; omega) _
end Go.Proofs.Ytbadjigfcncfcaa
