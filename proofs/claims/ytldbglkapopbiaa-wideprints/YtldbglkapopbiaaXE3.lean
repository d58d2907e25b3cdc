/- The reference's Parse (written by mkxe3.py). -/
import Derived.Test.YtldbglkapopbiaaXE2
import Derived.Test.YtldbglkapopbiaaRS
namespace Go.Proofs.Ytldbglkapopbiaa
open Go.RowKit

/-- What a text tells, or what is wrong. -/
def RP (l : List UInt8) (y e : Int) : Prop := (psT l ∧ y = psN l ∧ e = 0) ∨ (psF l ∧ ¬ psT l ∧ y = 0 ∧ e = 11) ∨ (¬ psF l ∧ y = 0 ∧ e = 3)
theorem RP.uni {l : List UInt8} {y e y' e' : Int} (h : RP l y e) (g : RP l y' e') : y = y' ∧ e = e' := by
  rcases h with ⟨h1, h2, h3⟩ | ⟨h0, h1, h2, h3⟩ | ⟨h1, h2, h3⟩ <;> rcases g with ⟨g1, g2, g3⟩ | ⟨g0, g1, g2, g3⟩ | ⟨g1, g2, g3⟩
  · exact ⟨by rw [h2, g2], by rw [h3, g3]⟩
  · exact absurd h1 g1
  · exact absurd h1.1 g1
  · exact absurd g1 h1
  · exact ⟨by rw [h2, g2], by rw [h3, g3]⟩
  · exact absurd h0 g1
  · exact absurd g1.1 h1
  · exact absurd g0 h1
  · exact ⟨by rw [h2, g2], by rw [h3, g3]⟩
theorem parse_RP (s : ByteArray) (hs : s.size ≤ maxLen) (w : World) : Calls Try.prog 16 #[.string s] w fun r w' => (∃ y e, RP s.data.toList y e ∧ r = .returned (.tuple #[wv y, .int .i64 e])) ∧ Below w.heap.size w w' := by
  by_cases hf : psF s.data.toList
  · by_cases ht : psT s.data.toList
    · refine (parse_ok s hs ht w).mono ?_
      rintro r w' ⟨rfl, hb⟩
      exact ⟨⟨_, 0, .inl ⟨ht, rfl, rfl⟩, rfl⟩, hb⟩
    · refine (parse_wide s hs hf ht w).mono ?_
      rintro r w' ⟨rfl, hb⟩
      exact ⟨⟨0, 11, .inr (.inl ⟨hf, ht, rfl, rfl⟩), by unfold wv; rw [hi_zero, lo_zero]⟩, hb⟩
  · refine (parse_form s hs hf w).mono ?_
    rintro r w' ⟨rfl, hb⟩
    exact ⟨⟨0, 3, .inr (.inr ⟨hf, rfl, rfl⟩), by unfold wv; rw [hi_zero, lo_zero]⟩, hb⟩
/-- The text without its sign. -/
structure Cut (s t : ByteArray) (neg : Bool) : Prop where
  cut : cutL s.data.toList = (t.data.toList, neg)
  size : t.size ≤ s.size
theorem cut_pos (s : ByteArray) (h : 0 < s.size) (h0 : s[0] = 45) : Cut s (s.extract 1 s.size) true := by
  have hh := head_get s h
  refine ⟨?_, by simp⟩
  unfold cutL
  rw [if_pos (by rw [hh, h0])]
  congr 1
  have : (s.extract 1 s.size).data.toList = s.data.toList.drop 1 := by
    simp [ByteArray.extract, ByteArray.copySlice]
    rw [List.take_of_length_le (by rw [List.length_tail, size_len]; omega)]
  rw [this]
  cases s.data.toList <;> simp
theorem cut_neg (s : ByteArray) (h : s.size = 0 ∨ ∃ h : 0 < s.size, s[0] ≠ 45) : Cut s s false := by
  refine ⟨?_, Nat.le_refl _⟩
  unfold cutL
  rw [if_neg]
  intro e
  rcases h with h | ⟨h, h0⟩
  · have : s.data.toList = [] := List.length_eq_zero_iff.1 (by rw [size_len]; exact h)
    rw [this] at e; simp at e
  · rw [head_get s h] at e
    simp at e; exact h0 e
/-- Of a number the one in reach with the same digits. -/
theorem in_reach (N : Int) : ∃ x, -170141183460469231731687303715884105728 ≤ x ∧ x < 170141183460469231731687303715884105728 ∧ wv x = wv N ∧ (-170141183460469231731687303715884105728 ≤ N → N < 170141183460469231731687303715884105728 → x = N) := by
  have hh := hi_bd N
  have hl := lo_bd N
  obtain ⟨x, x1, x2, e1, e2⟩ := of_halves (hi N) (lo N) hh.1 (by omega) hl.1 (by omega)
  refine ⟨x, x1, x2, by unfold wv; rw [e1, e2], fun n1 n2 => ?_⟩
  have b1 := halves_back x x1 x2
  have b2 := halves_back N n1 n2
  rw [← e1, ← e2] at b1
  omega
theorem numOf_lt (l : List UInt8) (h : AllDigits l) : numOf l < 10 ^ l.length := (decs_numOf l h).2
theorem psT_len {l : List UInt8} (h : psT l) : (cutL l).1.length ≤ 39 := by
  obtain ⟨hf, h2⟩ := h
  obtain ⟨hl, _⟩ := isLen_formed hf
  have hn : (numOf (cutL l).1 : Int) ≤ 170141183460469231731687303715884105728 := by rcases h2 with h | h <;> omega
  rcases Nat.lt_or_ge 39 (cutL l).1.length with h3 | h3
  · have h4 := isLen_ge hl (by omega)
    have h5 : 10 ^ 39 ≤ 10 ^ ((cutL l).1.length - 1) := Nat.pow_le_pow_right (by omega) (by omega)
    omega
  · exact h3
/-- What Print says of the first forty digits' number: the text, just if it is a number's. -/
theorem told_text {s t : ByteArray} {neg : Bool} (hc : Cut s t neg) (x : Int) (x1 : -170141183460469231731687303715884105728 ≤ x) (x2 : x < 170141183460469231731687303715884105728)
    (hx : wv x = wv (if neg = true then -(numOf (t.data.toList.take 40) : Int) else (numOf (t.data.toList.take 40) : Int))) : (psT s.data.toList ∧ pr x = s.data.toList ∧ x = psN s.data.toList) ∨ (¬ psT s.data.toList ∧ pr x ≠ s.data.toList) := by
  have hcut := hc.cut
  by_cases ht : psT s.data.toList
  · left
    have hl := psT_len ht
    rw [hcut] at hl
    simp only at hl
    have hN : (if neg = true then -(numOf (t.data.toList.take 40) : Int) else (numOf (t.data.toList.take 40) : Int)) = psN s.data.toList := by
      unfold psN
      rw [hcut, List.take_of_length_le (by omega)]
    rw [hN] at hx
    obtain ⟨p1, p2, p3⟩ := pr_ps _ ht
    have hxe : x = psN s.data.toList := by
      unfold wv at hx
      simp at hx
      have b1 := halves_back x x1 x2
      have b2 := halves_back _ p2 p3
      rw [hx.1, hx.2] at b1
      omega
    exact ⟨ht, by rw [hxe]; exact p1, hxe⟩
  · right
    refine ⟨ht, fun e => ht ?_⟩
    rw [← e]
    exact (ps_pr x x1 x2).1
theorem str_of {l : List UInt8} {s : ByteArray} (h : l = s.data.toList) : l = s.toList := by
  have h1 : (⟨l.toArray⟩ : ByteArray) = s := by subst h; cases s; simp
  have h2 := congrArg ByteArray.toList h1
  simpa using h2
theorem str_ne {l : List UInt8} {s : ByteArray} (h : l ≠ s.data.toList) : ¬ l = s.toList := by
  intro e
  apply h
  have h2 : s.data.toList = s.toList := str_of rfl
  rw [h2]; exact e
set_option maxRecDepth 100000 in
set_option maxHeartbeats 4000000 in
theorem refParse_any (s : ByteArray) (hs0 : s.size ≤ 200) (w : World) : Calls Try.prog 17 #[.string s] w fun r w' => (∃ y e, RP s.data.toList y e ∧ r = .returned (.tuple #[wv y, .int .i64 e])) ∧ Below w.heap.size w w' := by
  have HZ : Hid (hi 0 = 0 ∧ lo 0 = 0) := ⟨by unfold hi; omega, by unfold lo; omega⟩
  obtain ⟨t, neg, HC, hpre⟩ : ∃ t neg, Hid (Cut s t neg) ∧ ((0 < s.size ∧ (∃ h : 0 < s.size, (s[0].toNat : Int) = 45) ∧ s.extract 1 s.size = t ∧ neg = true) ∨ (s.size = 0 ∧ s = t ∧ neg = false) ∨ (0 < s.size ∧ (∃ h : 0 < s.size, ((s[0].toNat : Int) == 45) = false) ∧ s = t ∧ neg = false)) := by
    by_cases h : 0 < s.size
    · by_cases h0 : s[0] = 45
      · exact ⟨_, true, cut_pos s h h0, .inl ⟨h, ⟨h, by rw [h0]; rfl⟩, rfl, rfl⟩⟩
      · refine ⟨s, false, cut_neg s (.inr ⟨h, h0⟩), .inr (.inr ⟨h, ⟨h, ?_⟩, rfl, rfl⟩)⟩
        rw [beq_eq_false_iff_ne]
        intro e
        apply h0
        exact UInt8.toNat_inj.1 (by simp; omega)
    · exact ⟨s, false, cut_neg s (.inl (by omega)), .inr (.inl ⟨by omega, rfl, rfl⟩)⟩
  have hts : t.size ≤ 200 := by have := HC.out.size; omega
  have HF : Hid (psF s.data.toList ↔ Formed t.data.toList neg) := by unfold Hid psF; rw [HC.out.cut]
  rcases hpre with ⟨hp, ⟨_, hix⟩, hex, hng⟩ | ⟨hp, rfl, hng⟩ | ⟨hp, ⟨_, hix⟩, rfl, hng⟩
  · subst hng
    have hpz : (0 : Int) < (s.size : Int) := by omega
    have hz0 : (t.size : Int) ≤ 200 := by omega
    by_cases ht0 : t.size = 0
    · have HNF : Hid (¬ psF s.data.toList) := by
        rw [HF.out]
        rintro ⟨⟨h1, _⟩, _⟩
        rw [size_len] at h1; omega
      have hz : ((t.size : Int) == 0) = true := by rw [ht0]; rfl
      go_enter Try.func17, Try.ntmps17
      go_wp2_with fail
      refine bodyPost_ret (v := .tuple #[.agg #[.int .i64 0, .int .u64 0], .int .i64 3]) (by simp [results, Try.results17, go_sem]) rfl ⟨⟨0, 3, .inr (.inr ⟨HNF.out, rfl, rfl⟩), by unfold wv; rw [HZ.out.1, HZ.out.2]⟩, (Below.refl _ _).alloc (Nat.le_refl _) _⟩
    · have htp : 0 < t.size := by omega
      have htp' : (0 : Int) < (t.size : Int) := by omega
      have hz : ((t.size : Int) == 0) = false := by rw [beq_eq_false_iff_ne]; omega
      obtain ⟨c0, Hc0⟩ := hid_exd (t[0].toNat : Int)
      have hix0 : (t[0].toNat : Int) = c0 := Hc0.out.symm
      have HH0 : Hid (t.data.toList.head? = some t[0]) := head_get t htp
      clear ht0
      by_cases hh : c0 = 48 ∧ (true = true ∨ 1 < t.size)
      · obtain ⟨hh1, hh2⟩ := hh
        have HNF : Hid (¬ psF s.data.toList) := by
          rw [HF.out]
          rintro ⟨⟨_, h2⟩, _⟩
          refine h2 ⟨?_, by rw [size_len]; exact hh2⟩
          rw [HH0.out]
          congr 1
          exact UInt8.toNat_inj.1 (by have := Hc0.out; simp; omega)
        have hb1 : (c0 == 48) = true := by simpa using hh1
        clear hh2
        clear hh1
        go_enter Try.func17, Try.ntmps17
        go_wp2_with fail
        refine bodyPost_ret (v := .tuple #[.agg #[.int .i64 0, .int .u64 0], .int .i64 3]) (by simp [results, Try.results17, go_sem]) rfl ⟨⟨0, 3, .inr (.inr ⟨HNF.out, rfl, rfl⟩), by unfold wv; rw [HZ.out.1, HZ.out.2]⟩, (Below.refl _ _).alloc (Nat.le_refl _) _⟩
      · have HHd : Hid (Head t.data.toList true) := by
          refine ⟨by rw [size_len]; exact htp, fun h2 => hh ⟨?_, by rw [size_len] at h2; exact h2.2⟩⟩
          have h3 := h2.1
          rw [HH0.out] at h3
          have h4 : t[0] = 48 := by simpa using h3
          rw [Hc0.out, h4]; rfl
        have hb1 : (c0 == 48) = false := by
          rw [beq_eq_false_iff_ne]
          intro e
          exact hh ⟨e, .inl rfl⟩
        clear hh HH0
        go_enter Try.func17, Try.ntmps17
        go_wp2_with fail
        clear hb1 hix0 hz
        go_loopw [6] (fun i wr => ∃ k : Nat, k ≤ t.size ∧ i = .int .i64 (k : Int) ∧ Hid (AllDigits (t.data.toList.take k)) ∧ wr = w.alloc (.cells #[.int .i64 0, .int .u64 0] 24)) (fun i _ => t.size - (intOf i).toNat)
        case atStart => exact ⟨0, by omega, rfl, (by intro c hc; simp at hc), rfl⟩
        case round =>
          obtain ⟨k, hk, rfl, HA, rfl⟩ := hrel
          by_cases hlt : k < t.size
          · obtain ⟨c, Hc⟩ := hid_exd (t[k].toNat : Int)
            have hixk : (t[k].toNat : Int) = c := Hc.out.symm
            by_cases l1 : c < 48
            · have HNF : Hid (¬ psF s.data.toList) := by
                rw [HF.out]
                rintro ⟨_, ha⟩
                have := ha _ (get_mem t k hlt); have := Hc.out; omega
              go_wp2_with fail
              refine bodyPost_ret (v := .tuple #[.agg #[.int .i64 0, .int .u64 0], .int .i64 3]) (by simp [results, Try.results17, go_sem]) rfl ⟨⟨0, 3, .inr (.inr ⟨HNF.out, rfl, rfl⟩), by unfold wv; rw [HZ.out.1, HZ.out.2]⟩, (Below.refl _ _).alloc (Nat.le_refl _) _⟩
            · by_cases l2 : 57 < c
              · have HNF : Hid (¬ psF s.data.toList) := by
                  rw [HF.out]
                  rintro ⟨_, ha⟩
                  have := ha _ (get_mem t k hlt); have := Hc.out; omega
                have b1 : decide (c < 48) = false := by simpa using l1
                go_wp2_with fail
                refine bodyPost_ret (v := .tuple #[.agg #[.int .i64 0, .int .u64 0], .int .i64 3]) (by simp [results, Try.results17, go_sem]) rfl ⟨⟨0, 3, .inr (.inr ⟨HNF.out, rfl, rfl⟩), by unfold wv; rw [HZ.out.1, HZ.out.2]⟩, (Below.refl _ _).alloc (Nat.le_refl _) _⟩
              · have b1 : decide (c < 48) = false := by simpa using l1
                have b2 : decide (57 < c) = false := by simpa using l2
                have HN : Hid (AllDigits (t.data.toList.take (k + 1))) := all_take t k hlt HA.out (by have := Hc.out; omega)
                go_wp2_with fail
                go_roundw
                case rel => exact ⟨k + 1, by omega, by go_num, HN.out, by first | rfl | trivial⟩
                case measure => simp [intOf]; omega
          · have HPF : Hid (psF s.data.toList) := by
              unfold Hid
              rw [HF.out]
              refine ⟨HHd.out, ?_⟩
              have := HA.out
              rw [List.take_of_length_le (by rw [size_len]; omega)] at this
              exact this
            have HAD : Hid (AllDigits t.data.toList) := (HF.out.1 HPF.out).2
            clear HA
            go_wp2_with fail
            obtain ⟨w3, H3⟩ := hid_exd ((w.alloc (.cells #[.int .i64 0, .int .u64 0] 24)).alloc (.cells #[.int .i64 0, .int .u64 0] 24))
            have HR3 : Hid (Nb 0 w.heap.size w3) := by
              rw [H3.out]
              refine ⟨by simp; omega, ?_, ?_, fun o => ?_⟩ <;> simp [go_sem, World.cell?_alloc_past, HZ.out.1, HZ.out.2]
            have HW3 : Hid (Nb 0 (w.heap.size + 1) w3) := by
              rw [H3.out]
              refine ⟨by simp, ?_, ?_, fun o => ?_⟩ <;> simp [go_sem, HZ.out.1, HZ.out.2]
            have HB3 : Hid (Below w.heap.size w w3) := by rw [H3.out]; exact ((Below.refl _ _).alloc (Nat.le_refl _) _).alloc (by simp) _
            rw [← H3.out]
            clear H3 hk hlt
            go_loopw [8] (fun i wr => ∃ m : Nat, m ≤ t.size ∧ m ≤ 40 ∧ i = .int .i64 (m : Int) ∧ Hid (Nb 0 w.heap.size wr) ∧ Hid (Nb (numOf (t.data.toList.take m) : Int) (w.heap.size + 1) wr) ∧ Hid (Below w.heap.size w wr)) (fun i _ => 40 - (intOf i).toNat)
            case atStart => exact ⟨0, by omega, by omega, rfl, HR3.out, HW3.out, HB3.out⟩
            case round =>
              clear HR3 HW3 HB3
              obtain ⟨m, hm, hm40, rfl, HR, HW, HB⟩ := hrel
              by_cases hlt : m < t.size ∧ m < 40
              · obtain ⟨hlt, hlt40⟩ := hlt
                have hlt40' : (m : Int) < 40 := by omega
                obtain ⟨A, HAe⟩ := hid_exd ((numOf (t.data.toList.take m) : Nat) : Int)
                rw [← HAe.out] at HW
                go_wp2_with fail
                obtain ⟨w4, H4⟩ := hid_exd (wr.alloc (.cells #[.int .i64 0, .int .u64 0] 24))
                obtain ⟨bt, Hbt⟩ := hid_exd wr.heap.size
                have HT4 : Hid (Nb 0 bt w4) := by
                  rw [H4.out, Hbt.out]
                  refine ⟨by simp, ?_, ?_, fun o => ?_⟩ <;> simp [go_sem, HZ.out.1, HZ.out.2]
                have HR4 : Hid (Nb 0 w.heap.size w4) := by rw [H4.out]; exact HR.out.below ((Below.refl _ _).alloc (Nat.le_refl _) _)
                have HW4 : Hid (Nb A (w.heap.size + 1) w4) := by rw [H4.out]; exact HW.out.below ((Below.refl _ _).alloc (Nat.le_refl _) _)
                have HB4 : Hid (Below w.heap.size w w4) := by rw [H4.out]; exact HB.out.alloc HB.out.size _
                have hbt : w.heap.size + 1 < bt := by rw [Hbt.out]; exact HW.out.1
                rw [← H4.out, ← Hbt.out]
                clear H4 Hbt HR HW HB
                go_loopw [10] (fun i wr => ∃ j : Nat, j ≤ 10 ∧ i = .int .i64 (j : Int) ∧ Hid (Nb (A * j) bt wr) ∧ Hid (Nb 0 w.heap.size wr) ∧ Hid (Nb A (w.heap.size + 1) wr) ∧ Hid (Below w.heap.size w wr)) (fun i _ => 10 - (intOf i).toNat)
                case atStart => exact ⟨0, by omega, rfl, by rw [show A * ((0 : Nat) : Int) = 0 by simp]; exact HT4.out, HR4.out, HW4.out, HB4.out⟩
                case round =>
                  clear HT4 HR4 HW4 HB4
                  obtain ⟨j, hj, rfl, HT, HR, HW, HB⟩ := hrel
                  by_cases hj10 : j < 10
                  · have hj10' : (j : Int) < 10 := by omega
                    obtain ⟨B, HBe⟩ := hid_exd (A * (j : Int))
                    rw [← HBe.out] at HT
                    obtain ⟨a0, a1, a2, a3⟩ := HT.out
                    obtain ⟨p0, p1, p2, p3⟩ := HW.out
                    go_wp2_with fail
                    clear a0 a1 a2 a3 p0 p1 p2 p3
                    refine (refAdd_any B A _).mono ?_
                    rintro e w5 ⟨rfl, hb5⟩
                    have HT5 : Hid (Nb B bt w5) := HT.out.below hb5
                    have HR5 : Hid (Nb 0 w.heap.size w5) := HR.out.below hb5
                    have HW5 : Hid (Nb A (w.heap.size + 1) w5) := HW.out.below hb5
                    have HB5 : Hid (Below w.heap.size w w5) := HB.out.trans (hb5.mono HB.out.size)
                    clear hb5 HT HR HW HB
                    unfold wv
                    obtain ⟨a0, a1, a2, a3⟩ := HT5.out
                    go_wp2_with fail
                    go_roundw
                    case rel =>
                      refine ⟨j + 1, by omega, by go_num, ?_, (HR5.out.far (by omega)).far (by omega), (HW5.out.far (by omega)).far (by omega), (HB5.out.setCell (p := ⟨bt, 0, none⟩) (by show w.heap.size ≤ bt; omega) _).setCell (p := ⟨bt, 1, none⟩) (by show w.heap.size ≤ bt; omega) _⟩
                      have e1 : A * ((j + 1 : Nat) : Int) = B + A := by rw [HBe.out, Int.natCast_add, Int.mul_add]; simp
                      unfold Hid
                      rw [e1]
                      exact Nb.set HT5.out
                    case measure => simp [intOf]; omega
                  · have hj1 : j = 10 := by omega
                    subst hj1
                    obtain ⟨c, Hc⟩ := hid_exd (t[m].toNat : Int)
                    have hixm : (t[m].toNat : Int) = c := Hc.out.symm
                    have hcd : 48 ≤ c ∧ c ≤ 57 := by have := HAD.out _ (get_mem t m hlt); have := Hc.out; omega
                    have hw1 : IntKind.i64.wrap c = c := by rw [IntKind.wrap_i64]; omega
                    have hw2 : IntKind.i64.wrap (c - 48) = c - 48 := by rw [IntKind.wrap_i64]; omega
                    obtain ⟨B, HBe⟩ := hid_exd (A * ((10 : Nat) : Int))
                    rw [← HBe.out] at HT
                    have HS : Hid (((numOf (t.data.toList.take (m + 1)) : Nat) : Int) = B + (c - 48)) := by
                      unfold Hid
                      rw [take_snocB t m hlt, numOf_snoc, HBe.out, HAe.out, Hc.out]
                      have := HAD.out _ (get_mem t m hlt)
                      omega
                    go_wp2_with fail
                    obtain ⟨w5, H5⟩ := hid_exd wr
                    rw [← H5.out] at HT HR HW HB ⊢
                    clear H5
                    obtain ⟨q0, q1, q2, q3⟩ := HT.out
                    refine wp_region_noPanic ?_
                    refine wp_region_held_drew (S := (fun w' => w'.cell? ⟨bt, 0, none⟩ = some (.int .i64 (hi B)) ∧ w'.cell? ⟨bt, 1, none⟩ = some (.int .u64 (lo B)))) (by kernel_rfl) ?_ (fun hHeld => ?_)
                    · exact ⟨q1, q2⟩
                    refine wpAnyH_take (i := 0) (v := .agg #[.int .i64 (hi B), .int .u64 (lo B)]) rfl (by kernel_rfl) (by kernel_rfl) (by kernel_rfl) (fun _ _ _ h => h) (Or.inl ⟨by rfl, ?_⟩) (by assumption) ?_
                    · (intro w1 hSw; (try dsimp only at hSw); go_simp)
                    simp only [List.getElem_toArray, List.getElem_cons_zero, Act.put, List.setIfInBounds_toArray, List.set_cons_zero, List.set_cons_succ]
                    refine wpAnyH_take (i := 1) (v := .string t) rfl (by kernel_rfl) (by kernel_rfl) (by kernel_rfl) (fun _ _ _ h => h) (Or.inl ⟨by rfl, ?_⟩) (by assumption) ?_
                    · (intro w1 hSw; (try dsimp only at hSw); go_simp)
                    simp only [List.getElem_toArray, List.getElem_cons_succ, List.getElem_cons_zero, Act.put, List.setIfInBounds_toArray, List.set_cons_zero, List.set_cons_succ]
                    refine wpAnyH_take (i := 2) (v := .int .i64 (m : Int)) rfl (by kernel_rfl) (by kernel_rfl) (by kernel_rfl) (fun _ _ _ h => h) (Or.inl ⟨by rfl, ?_⟩) (by assumption) ?_
                    · (intro w1 hSw; (try dsimp only at hSw); go_simp)
                    simp only [List.getElem_toArray, List.getElem_cons_succ, List.getElem_cons_zero, Act.put, List.setIfInBounds_toArray, List.set_cons_zero, List.set_cons_succ]
                    refine wpAnyH_take (i := 3) (v := .int .u8 c) rfl (by kernel_rfl) (by kernel_rfl) (by kernel_rfl) (fun _ _ _ h => h) (Or.inl ⟨by rfl, ?_⟩) (by assumption) ?_
                    · (intro w1 hSw; (try dsimp only at hSw); go_simp)
                    simp only [List.getElem_toArray, List.getElem_cons_succ, List.getElem_cons_zero, Act.put, List.setIfInBounds_toArray, List.set_cons_zero, List.set_cons_succ]
                    refine wpAnyH_take (i := 4) (v := .int .i64 c) rfl (by kernel_rfl) (by kernel_rfl) (by kernel_rfl) (fun _ _ _ h => h) (Or.inl ⟨by rfl, ?_⟩) (by assumption) ?_
                    · (intro w1 hSw; (try dsimp only at hSw); go_simp)
                    simp only [List.getElem_toArray, List.getElem_cons_succ, List.getElem_cons_zero, Act.put, List.setIfInBounds_toArray, List.set_cons_zero, List.set_cons_succ]
                    refine wpAnyH_take (i := 5) (v := .int .i64 (c - 48)) rfl (by kernel_rfl) (by kernel_rfl) (by kernel_rfl) (fun _ _ _ h => h) (Or.inl ⟨by rfl, ?_⟩) (by assumption) ?_
                    · (intro w1 hSw; (try dsimp only at hSw); go_simp)
                    simp only [List.getElem_toArray, List.getElem_cons_succ, List.getElem_cons_zero, Act.put, List.setIfInBounds_toArray, List.set_cons_zero, List.set_cons_succ]
                    clear q0 q1 q2 q3
                    refine wpAnyH_ready (rs := [6]) (by kernel_rfl) (by simp) ?_
                    refine AllReadyH.cons (o := _) rfl (fun K hK => ?_) AllReadyH.nil
                    go_simp
                    refine (refOf_any (c - 48) (by omega) (by omega) _).mono ?_
                    rintro e w6 ⟨rfl, hb6'⟩
                    have hb6 : Below w5.heap.size w5 w6 := (Below.refl _ _).drew.trans hb6'
                    have HT6 : Hid (Nb B bt w6) := HT.out.below hb6
                    have HR6 : Hid (Nb 0 w.heap.size w6) := HR.out.below hb6
                    have HW6 : Hid (Nb A (w.heap.size + 1) w6) := HW.out.below hb6
                    have HB6 : Hid (Below w.heap.size w w6) := HB.out.trans (hb6.mono HB.out.size)
                    clear hb6 hb6' HT HR HW HB
                    go_simp
                    refine hK.out _ _ ?_ (fun hHeld => ?_)
                    · exact ⟨HT6.out.2.1, HT6.out.2.2.1⟩
                    clear hK K
                    refine wpAnyH_ready (rs := [7]) (by kernel_rfl) (by simp) ?_
                    refine AllReadyH.cons (o := _) rfl (fun K hK => ?_) AllReadyH.nil
                    go_simp
                    refine (refAdd_any B (c - 48) _).mono ?_
                    rintro e w7 ⟨rfl, hb7⟩
                    have HT7 : Hid (Nb B bt w7) := HT6.out.below hb7
                    have HR7 : Hid (Nb 0 w.heap.size w7) := HR6.out.below hb7
                    have HW7 : Hid (Nb A (w.heap.size + 1) w7) := HW6.out.below hb7
                    have HB7 : Hid (Below w.heap.size w w7) := HB6.out.trans (hb7.mono HB6.out.size)
                    clear hb7 HT6 HR6 HW6 HB6
                    go_simp
                    refine hK.out _ _ ?_ (fun hHeld => ?_)
                    · exact ⟨HT7.out.2.1, HT7.out.2.2.1⟩
                    clear hK K
                    unfold wv
                    obtain ⟨p0, p1, p2, p3⟩ := HW7.out
                    refine wpAnyH_ready (rs := [8]) (by kernel_rfl) (by simp) ?_
                    refine AllReadyH.cons (o := _) rfl (fun K hK => ?_) AllReadyH.nil
                    go_simp
                    refine hK.out _ _ ?_ (fun hHeld => ?_)
                    · exact ⟨((HT7.out.far (by omega)).far (by omega)).2.1, ((HT7.out.far (by omega)).far (by omega)).2.2.1⟩
                    clear hK K
                    refine wpAnyH_done (by kernel_rfl) ?_ _
                    refine NoPanic.normal ?_
                    clear p0 p1 p2 p3 hHeld
                    go_wp2_with fail
                    go_roundw
                    case rel =>
                      refine ⟨m + 1, by omega, by omega, by go_num, (HR7.out.far (by omega)).far (by omega), ?_, (HB7.out.setCell (p := ⟨w.heap.size + 1, 0, none⟩) (by show w.heap.size ≤ w.heap.size + 1; omega) _).setCell (p := ⟨w.heap.size + 1, 1, none⟩) (by show w.heap.size ≤ w.heap.size + 1; omega) _⟩
                      unfold Hid
                      rw [HS.out]
                      exact Nb.set HW7.out
                    case measure => simp [intOf]; omega
              · have hend : (m < t.size ∧ ¬ (m : Int) < 40) ∨ ¬ m < t.size := by omega
                have HTK : Hid (t.data.toList.take m = t.data.toList.take 40) := by
                  unfold Hid
                  rcases hend with ⟨_, h⟩ | h
                  · have : m = 40 := by omega
                    rw [this]
                  · rw [List.take_of_length_le (by rw [size_len]; omega), List.take_of_length_le (by rw [size_len]; omega)]
                rw [HTK.out] at HW
                clear hlt HTK
                obtain ⟨N, HNe⟩ := hid_exd ((numOf (t.data.toList.take 40) : Nat) : Int)
                rw [← HNe.out] at HW
                obtain ⟨x, x1, x2, hx, _⟩ := in_reach (-N)
                have HTT : Hid _ := told_text HC.out x x1 x2 (by rw [hx, HNe.out]; rfl)
                have hxh : hi (-N) = hi x := by unfold wv at hx; simp at hx; exact hx.1.symm
                have hxl : lo (-N) = lo x := by unfold wv at hx; simp at hx; exact hx.2.symm
                have HXH := (show Hid _ from hxh)
                have HXL := (show Hid _ from hxl)
                clear hx hxh hxl
                have hbb : w.heap.size + 1 < wr.heap.size := HW.out.1
                rcases hend with ⟨hlt, hlt40⟩ | hlt
                all_goals
                  obtain ⟨p0, p1, p2, p3⟩ := HW.out
                  go_wp2_with fail
                  clear p0 p1 p2 p3
                  refine (refMinus_any N _).mono ?_
                  rintro e w7 ⟨rfl, hb7⟩
                  have HR7 : Hid (Nb 0 w.heap.size w7) := HR.out.below hb7
                  have HW7 : Hid (Nb N (w.heap.size + 1) w7) := HW.out.below hb7
                  have HB7 : Hid (Below w.heap.size w w7) := HB.out.trans (hb7.mono HB.out.size)
                  clear hb7
                  unfold wv
                  obtain ⟨p0, p1, p2, p3⟩ := HW7.out
                  rw [HXH.out, HXL.out]
                  have hww := HW7.out.1
                  go_wp2_with fail
                  obtain ⟨wX, HXe⟩ := hid_exd ((w7.setCell ⟨w.heap.size + 1, 0, none⟩ (.int .i64 (hi x))).setCell ⟨w.heap.size + 1, 1, none⟩ (.int .u64 (lo x)))
                  have HRX : Hid (Nb 0 w.heap.size wX) := by rw [HXe.out]; exact (HR7.out.far (by omega)).far (by omega)
                  have HWX : Hid (Nb x (w.heap.size + 1) wX) := by rw [HXe.out]; exact Nb.set HW7.out
                  have HBX : Hid (Below w.heap.size w wX) := by rw [HXe.out]; exact (HB7.out.setCell (p := ⟨w.heap.size + 1, 0, none⟩) (by show w.heap.size ≤ w.heap.size + 1; omega) _).setCell (p := ⟨w.heap.size + 1, 1, none⟩) (by show w.heap.size ≤ w.heap.size + 1; omega) _
                  rw [← HXe.out]
                  clear p0 p1 p2 p3 hww HXe
                  refine (refPrint_any x x1 x2 _).mono ?_
                  rintro e w8 ⟨rfl, hb8⟩
                  have HR8 : Hid (Nb 0 w.heap.size w8) := HRX.out.below hb8
                  have HW8 : Hid (Nb x (w.heap.size + 1) w8) := HWX.out.below hb8
                  have HB8 : Hid (Below w.heap.size w w8) := HBX.out.trans (hb8.mono HBX.out.size)
                  clear hb8
                  rcases HTT.out with ⟨h1, h2, h3⟩ | ⟨h1, h2⟩
                  · have hq := str_of h2
                    have HRP : Hid (RP s.data.toList x 0) := .inl ⟨h1, h3, rfl⟩
                    clear h1 h2 h3
                    obtain ⟨p0, p1, p2, p3⟩ := HW8.out
                    obtain ⟨r0, r1, r2, r3⟩ := HR8.out
                    go_wp2_with fail
                    have hs := Nb.set (y := x) HR8.out
                    obtain ⟨_, s1, s2, _⟩ := hs
                    refine bodyPost_ret (v := .tuple #[.agg #[.int .i64 (hi x), .int .u64 (lo x)], .int .i64 0]) (by simp [results, Try.results17, go_sem, s1, s2]) rfl ⟨⟨x, 0, HRP.out, rfl⟩, ?_⟩
                    exact (HB8.out.setCell (p := ⟨w.heap.size, 0, none⟩) (Nat.le_refl _) _).setCell (p := ⟨w.heap.size, 1, none⟩) (Nat.le_refl _) _
                  · have hq : (pr x == s.toList) = false := beq_eq_false_iff_ne.2 (str_ne h2)
                    have HRP : Hid (RP s.data.toList 0 11) := .inr (.inl ⟨HPF.out, h1, rfl, rfl⟩)
                    clear h1 h2
                    obtain ⟨r0, r1, r2, r3⟩ := HR8.out
                    go_wp2_with fail
                    have hs := Nb.set (y := 0) HR8.out
                    rw [HZ.out.1, HZ.out.2] at hs
                    obtain ⟨_, s1, s2, _⟩ := hs
                    rw [HZ.out.1] at s1
                    rw [HZ.out.2] at s2
                    refine bodyPost_ret (v := .tuple #[.agg #[.int .i64 0, .int .u64 0], .int .i64 11]) (by simp [results, Try.results17, go_sem, s1, s2]) rfl ⟨⟨0, 11, HRP.out, by unfold wv; rw [HZ.out.1, HZ.out.2]⟩, ?_⟩
                    exact (HB8.out.setCell (p := ⟨w.heap.size, 0, none⟩) (Nat.le_refl _) _).setCell (p := ⟨w.heap.size, 1, none⟩) (Nat.le_refl _) _
  · subst hng
    have hpz : ¬ (0 : Int) < (s.size : Int) := by omega
    have HNF : Hid (¬ psF s.data.toList) := by
      rw [HF.out]
      rintro ⟨⟨h1, _⟩, _⟩
      rw [size_len] at h1; omega
    have hz : ((s.size : Int) == 0) = true := by rw [hp]; rfl
    go_enter Try.func17, Try.ntmps17
    go_wp2_with fail
    refine bodyPost_ret (v := .tuple #[.agg #[.int .i64 0, .int .u64 0], .int .i64 3]) (by simp [results, Try.results17, go_sem]) rfl ⟨⟨0, 3, .inr (.inr ⟨HNF.out, rfl, rfl⟩), by unfold wv; rw [HZ.out.1, HZ.out.2]⟩, (Below.refl _ _).alloc (Nat.le_refl _) _⟩
  · subst hng
    have hpz : (0 : Int) < (s.size : Int) := by omega
    have hz0 : (s.size : Int) ≤ 200 := by omega
    by_cases ht0 : s.size = 0
    · exfalso; omega
    · have htp : 0 < s.size := by omega
      have htp' : (0 : Int) < (s.size : Int) := by omega
      have hz : ((s.size : Int) == 0) = false := by rw [beq_eq_false_iff_ne]; omega
      obtain ⟨c0, Hc0⟩ := hid_exd (s[0].toNat : Int)
      have hix0 : (s[0].toNat : Int) = c0 := Hc0.out.symm
      rw [hix0] at hix
      have HH0 : Hid (s.data.toList.head? = some s[0]) := head_get s htp
      clear ht0
      by_cases hh : c0 = 48 ∧ (false = true ∨ 1 < s.size)
      · obtain ⟨hh1, hh2⟩ := hh
        have HNF : Hid (¬ psF s.data.toList) := by
          rw [HF.out]
          rintro ⟨⟨_, h2⟩, _⟩
          refine h2 ⟨?_, by rw [size_len]; exact hh2⟩
          rw [HH0.out]
          congr 1
          exact UInt8.toNat_inj.1 (by have := Hc0.out; simp; omega)
        have hb1 : (c0 == 48) = true := by simpa using hh1
        have hb2 : decide ((1 : Int) < (s.size : Int)) = true := by
          rcases hh2 with h | h
          · cases h
          · simp; omega
        clear hh2
        clear hh1
        go_enter Try.func17, Try.ntmps17
        go_wp2_with fail
        refine bodyPost_ret (v := .tuple #[.agg #[.int .i64 0, .int .u64 0], .int .i64 3]) (by simp [results, Try.results17, go_sem]) rfl ⟨⟨0, 3, .inr (.inr ⟨HNF.out, rfl, rfl⟩), by unfold wv; rw [HZ.out.1, HZ.out.2]⟩, (Below.refl _ _).alloc (Nat.le_refl _) _⟩
      · have HHd : Hid (Head s.data.toList false) := by
          refine ⟨by rw [size_len]; exact htp, fun h2 => hh ⟨?_, by rw [size_len] at h2; exact h2.2⟩⟩
          have h3 := h2.1
          rw [HH0.out] at h3
          have h4 : s[0] = 48 := by simpa using h3
          rw [Hc0.out, h4]; rfl
        have hor : (c0 == 48) = false ∨ ((c0 == 48) = true ∧ decide ((1 : Int) < (s.size : Int)) = false) := by
          by_cases e : c0 = 48
          · right
            refine ⟨by simpa using e, ?_⟩
            simp
            rcases Nat.lt_or_ge 1 s.size with h | h
            · exact absurd ⟨e, .inr h⟩ hh
            · omega
          · left; simpa using e
        clear hh HH0
        rcases hor with hb1 | ⟨hb1, hb2⟩
        · skip
          go_enter Try.func17, Try.ntmps17
          go_wp2_with fail
          clear hb1 hix0 hz
          go_loopw [6] (fun i wr => ∃ k : Nat, k ≤ s.size ∧ i = .int .i64 (k : Int) ∧ Hid (AllDigits (s.data.toList.take k)) ∧ wr = w.alloc (.cells #[.int .i64 0, .int .u64 0] 24)) (fun i _ => s.size - (intOf i).toNat)
          case atStart => exact ⟨0, by omega, rfl, (by intro c hc; simp at hc), rfl⟩
          case round =>
            obtain ⟨k, hk, rfl, HA, rfl⟩ := hrel
            by_cases hlt : k < s.size
            · obtain ⟨c, Hc⟩ := hid_exd (s[k].toNat : Int)
              have hixk : (s[k].toNat : Int) = c := Hc.out.symm
              by_cases l1 : c < 48
              · have HNF : Hid (¬ psF s.data.toList) := by
                  rw [HF.out]
                  rintro ⟨_, ha⟩
                  have := ha _ (get_mem s k hlt); have := Hc.out; omega
                go_wp2_with fail
                refine bodyPost_ret (v := .tuple #[.agg #[.int .i64 0, .int .u64 0], .int .i64 3]) (by simp [results, Try.results17, go_sem]) rfl ⟨⟨0, 3, .inr (.inr ⟨HNF.out, rfl, rfl⟩), by unfold wv; rw [HZ.out.1, HZ.out.2]⟩, (Below.refl _ _).alloc (Nat.le_refl _) _⟩
              · by_cases l2 : 57 < c
                · have HNF : Hid (¬ psF s.data.toList) := by
                    rw [HF.out]
                    rintro ⟨_, ha⟩
                    have := ha _ (get_mem s k hlt); have := Hc.out; omega
                  have b1 : decide (c < 48) = false := by simpa using l1
                  go_wp2_with fail
                  refine bodyPost_ret (v := .tuple #[.agg #[.int .i64 0, .int .u64 0], .int .i64 3]) (by simp [results, Try.results17, go_sem]) rfl ⟨⟨0, 3, .inr (.inr ⟨HNF.out, rfl, rfl⟩), by unfold wv; rw [HZ.out.1, HZ.out.2]⟩, (Below.refl _ _).alloc (Nat.le_refl _) _⟩
                · have b1 : decide (c < 48) = false := by simpa using l1
                  have b2 : decide (57 < c) = false := by simpa using l2
                  have HN : Hid (AllDigits (s.data.toList.take (k + 1))) := all_take s k hlt HA.out (by have := Hc.out; omega)
                  go_wp2_with fail
                  go_roundw
                  case rel => exact ⟨k + 1, by omega, by go_num, HN.out, by first | rfl | trivial⟩
                  case measure => simp [intOf]; omega
            · have HPF : Hid (psF s.data.toList) := by
                unfold Hid
                rw [HF.out]
                refine ⟨HHd.out, ?_⟩
                have := HA.out
                rw [List.take_of_length_le (by rw [size_len]; omega)] at this
                exact this
              have HAD : Hid (AllDigits s.data.toList) := (HF.out.1 HPF.out).2
              clear HA
              go_wp2_with fail
              obtain ⟨w3, H3⟩ := hid_exd ((w.alloc (.cells #[.int .i64 0, .int .u64 0] 24)).alloc (.cells #[.int .i64 0, .int .u64 0] 24))
              have HR3 : Hid (Nb 0 w.heap.size w3) := by
                rw [H3.out]
                refine ⟨by simp; omega, ?_, ?_, fun o => ?_⟩ <;> simp [go_sem, World.cell?_alloc_past, HZ.out.1, HZ.out.2]
              have HW3 : Hid (Nb 0 (w.heap.size + 1) w3) := by
                rw [H3.out]
                refine ⟨by simp, ?_, ?_, fun o => ?_⟩ <;> simp [go_sem, HZ.out.1, HZ.out.2]
              have HB3 : Hid (Below w.heap.size w w3) := by rw [H3.out]; exact ((Below.refl _ _).alloc (Nat.le_refl _) _).alloc (by simp) _
              rw [← H3.out]
              clear H3 hk hlt
              go_loopw [8] (fun i wr => ∃ m : Nat, m ≤ s.size ∧ m ≤ 40 ∧ i = .int .i64 (m : Int) ∧ Hid (Nb 0 w.heap.size wr) ∧ Hid (Nb (numOf (s.data.toList.take m) : Int) (w.heap.size + 1) wr) ∧ Hid (Below w.heap.size w wr)) (fun i _ => 40 - (intOf i).toNat)
              case atStart => exact ⟨0, by omega, by omega, rfl, HR3.out, HW3.out, HB3.out⟩
              case round =>
                clear HR3 HW3 HB3
                obtain ⟨m, hm, hm40, rfl, HR, HW, HB⟩ := hrel
                by_cases hlt : m < s.size ∧ m < 40
                · obtain ⟨hlt, hlt40⟩ := hlt
                  have hlt40' : (m : Int) < 40 := by omega
                  obtain ⟨A, HAe⟩ := hid_exd ((numOf (s.data.toList.take m) : Nat) : Int)
                  rw [← HAe.out] at HW
                  go_wp2_with fail
                  obtain ⟨w4, H4⟩ := hid_exd (wr.alloc (.cells #[.int .i64 0, .int .u64 0] 24))
                  obtain ⟨bt, Hbt⟩ := hid_exd wr.heap.size
                  have HT4 : Hid (Nb 0 bt w4) := by
                    rw [H4.out, Hbt.out]
                    refine ⟨by simp, ?_, ?_, fun o => ?_⟩ <;> simp [go_sem, HZ.out.1, HZ.out.2]
                  have HR4 : Hid (Nb 0 w.heap.size w4) := by rw [H4.out]; exact HR.out.below ((Below.refl _ _).alloc (Nat.le_refl _) _)
                  have HW4 : Hid (Nb A (w.heap.size + 1) w4) := by rw [H4.out]; exact HW.out.below ((Below.refl _ _).alloc (Nat.le_refl _) _)
                  have HB4 : Hid (Below w.heap.size w w4) := by rw [H4.out]; exact HB.out.alloc HB.out.size _
                  have hbt : w.heap.size + 1 < bt := by rw [Hbt.out]; exact HW.out.1
                  rw [← H4.out, ← Hbt.out]
                  clear H4 Hbt HR HW HB
                  go_loopw [10] (fun i wr => ∃ j : Nat, j ≤ 10 ∧ i = .int .i64 (j : Int) ∧ Hid (Nb (A * j) bt wr) ∧ Hid (Nb 0 w.heap.size wr) ∧ Hid (Nb A (w.heap.size + 1) wr) ∧ Hid (Below w.heap.size w wr)) (fun i _ => 10 - (intOf i).toNat)
                  case atStart => exact ⟨0, by omega, rfl, by rw [show A * ((0 : Nat) : Int) = 0 by simp]; exact HT4.out, HR4.out, HW4.out, HB4.out⟩
                  case round =>
                    clear HT4 HR4 HW4 HB4
                    obtain ⟨j, hj, rfl, HT, HR, HW, HB⟩ := hrel
                    by_cases hj10 : j < 10
                    · have hj10' : (j : Int) < 10 := by omega
                      obtain ⟨B, HBe⟩ := hid_exd (A * (j : Int))
                      rw [← HBe.out] at HT
                      obtain ⟨a0, a1, a2, a3⟩ := HT.out
                      obtain ⟨p0, p1, p2, p3⟩ := HW.out
                      go_wp2_with fail
                      clear a0 a1 a2 a3 p0 p1 p2 p3
                      refine (refAdd_any B A _).mono ?_
                      rintro e w5 ⟨rfl, hb5⟩
                      have HT5 : Hid (Nb B bt w5) := HT.out.below hb5
                      have HR5 : Hid (Nb 0 w.heap.size w5) := HR.out.below hb5
                      have HW5 : Hid (Nb A (w.heap.size + 1) w5) := HW.out.below hb5
                      have HB5 : Hid (Below w.heap.size w w5) := HB.out.trans (hb5.mono HB.out.size)
                      clear hb5 HT HR HW HB
                      unfold wv
                      obtain ⟨a0, a1, a2, a3⟩ := HT5.out
                      go_wp2_with fail
                      go_roundw
                      case rel =>
                        refine ⟨j + 1, by omega, by go_num, ?_, (HR5.out.far (by omega)).far (by omega), (HW5.out.far (by omega)).far (by omega), (HB5.out.setCell (p := ⟨bt, 0, none⟩) (by show w.heap.size ≤ bt; omega) _).setCell (p := ⟨bt, 1, none⟩) (by show w.heap.size ≤ bt; omega) _⟩
                        have e1 : A * ((j + 1 : Nat) : Int) = B + A := by rw [HBe.out, Int.natCast_add, Int.mul_add]; simp
                        unfold Hid
                        rw [e1]
                        exact Nb.set HT5.out
                      case measure => simp [intOf]; omega
                    · have hj1 : j = 10 := by omega
                      subst hj1
                      obtain ⟨c, Hc⟩ := hid_exd (s[m].toNat : Int)
                      have hixm : (s[m].toNat : Int) = c := Hc.out.symm
                      have hcd : 48 ≤ c ∧ c ≤ 57 := by have := HAD.out _ (get_mem s m hlt); have := Hc.out; omega
                      have hw1 : IntKind.i64.wrap c = c := by rw [IntKind.wrap_i64]; omega
                      have hw2 : IntKind.i64.wrap (c - 48) = c - 48 := by rw [IntKind.wrap_i64]; omega
                      obtain ⟨B, HBe⟩ := hid_exd (A * ((10 : Nat) : Int))
                      rw [← HBe.out] at HT
                      have HS : Hid (((numOf (s.data.toList.take (m + 1)) : Nat) : Int) = B + (c - 48)) := by
                        unfold Hid
                        rw [take_snocB s m hlt, numOf_snoc, HBe.out, HAe.out, Hc.out]
                        have := HAD.out _ (get_mem s m hlt)
                        omega
                      go_wp2_with fail
                      obtain ⟨w5, H5⟩ := hid_exd wr
                      rw [← H5.out] at HT HR HW HB ⊢
                      clear H5
                      obtain ⟨q0, q1, q2, q3⟩ := HT.out
                      refine wp_region_noPanic ?_
                      refine wp_region_held_drew (S := (fun w' => w'.cell? ⟨bt, 0, none⟩ = some (.int .i64 (hi B)) ∧ w'.cell? ⟨bt, 1, none⟩ = some (.int .u64 (lo B)))) (by kernel_rfl) ?_ (fun hHeld => ?_)
                      · exact ⟨q1, q2⟩
                      refine wpAnyH_take (i := 0) (v := .agg #[.int .i64 (hi B), .int .u64 (lo B)]) rfl (by kernel_rfl) (by kernel_rfl) (by kernel_rfl) (fun _ _ _ h => h) (Or.inl ⟨by rfl, ?_⟩) (by assumption) ?_
                      · (intro w1 hSw; (try dsimp only at hSw); go_simp)
                      simp only [List.getElem_toArray, List.getElem_cons_zero, Act.put, List.setIfInBounds_toArray, List.set_cons_zero, List.set_cons_succ]
                      refine wpAnyH_take (i := 1) (v := .string s) rfl (by kernel_rfl) (by kernel_rfl) (by kernel_rfl) (fun _ _ _ h => h) (Or.inl ⟨by rfl, ?_⟩) (by assumption) ?_
                      · (intro w1 hSw; (try dsimp only at hSw); go_simp)
                      simp only [List.getElem_toArray, List.getElem_cons_succ, List.getElem_cons_zero, Act.put, List.setIfInBounds_toArray, List.set_cons_zero, List.set_cons_succ]
                      refine wpAnyH_take (i := 2) (v := .int .i64 (m : Int)) rfl (by kernel_rfl) (by kernel_rfl) (by kernel_rfl) (fun _ _ _ h => h) (Or.inl ⟨by rfl, ?_⟩) (by assumption) ?_
                      · (intro w1 hSw; (try dsimp only at hSw); go_simp)
                      simp only [List.getElem_toArray, List.getElem_cons_succ, List.getElem_cons_zero, Act.put, List.setIfInBounds_toArray, List.set_cons_zero, List.set_cons_succ]
                      refine wpAnyH_take (i := 3) (v := .int .u8 c) rfl (by kernel_rfl) (by kernel_rfl) (by kernel_rfl) (fun _ _ _ h => h) (Or.inl ⟨by rfl, ?_⟩) (by assumption) ?_
                      · (intro w1 hSw; (try dsimp only at hSw); go_simp)
                      simp only [List.getElem_toArray, List.getElem_cons_succ, List.getElem_cons_zero, Act.put, List.setIfInBounds_toArray, List.set_cons_zero, List.set_cons_succ]
                      refine wpAnyH_take (i := 4) (v := .int .i64 c) rfl (by kernel_rfl) (by kernel_rfl) (by kernel_rfl) (fun _ _ _ h => h) (Or.inl ⟨by rfl, ?_⟩) (by assumption) ?_
                      · (intro w1 hSw; (try dsimp only at hSw); go_simp)
                      simp only [List.getElem_toArray, List.getElem_cons_succ, List.getElem_cons_zero, Act.put, List.setIfInBounds_toArray, List.set_cons_zero, List.set_cons_succ]
                      refine wpAnyH_take (i := 5) (v := .int .i64 (c - 48)) rfl (by kernel_rfl) (by kernel_rfl) (by kernel_rfl) (fun _ _ _ h => h) (Or.inl ⟨by rfl, ?_⟩) (by assumption) ?_
                      · (intro w1 hSw; (try dsimp only at hSw); go_simp)
                      simp only [List.getElem_toArray, List.getElem_cons_succ, List.getElem_cons_zero, Act.put, List.setIfInBounds_toArray, List.set_cons_zero, List.set_cons_succ]
                      clear q0 q1 q2 q3
                      refine wpAnyH_ready (rs := [6]) (by kernel_rfl) (by simp) ?_
                      refine AllReadyH.cons (o := _) rfl (fun K hK => ?_) AllReadyH.nil
                      go_simp
                      refine (refOf_any (c - 48) (by omega) (by omega) _).mono ?_
                      rintro e w6 ⟨rfl, hb6'⟩
                      have hb6 : Below w5.heap.size w5 w6 := (Below.refl _ _).drew.trans hb6'
                      have HT6 : Hid (Nb B bt w6) := HT.out.below hb6
                      have HR6 : Hid (Nb 0 w.heap.size w6) := HR.out.below hb6
                      have HW6 : Hid (Nb A (w.heap.size + 1) w6) := HW.out.below hb6
                      have HB6 : Hid (Below w.heap.size w w6) := HB.out.trans (hb6.mono HB.out.size)
                      clear hb6 hb6' HT HR HW HB
                      go_simp
                      refine hK.out _ _ ?_ (fun hHeld => ?_)
                      · exact ⟨HT6.out.2.1, HT6.out.2.2.1⟩
                      clear hK K
                      refine wpAnyH_ready (rs := [7]) (by kernel_rfl) (by simp) ?_
                      refine AllReadyH.cons (o := _) rfl (fun K hK => ?_) AllReadyH.nil
                      go_simp
                      refine (refAdd_any B (c - 48) _).mono ?_
                      rintro e w7 ⟨rfl, hb7⟩
                      have HT7 : Hid (Nb B bt w7) := HT6.out.below hb7
                      have HR7 : Hid (Nb 0 w.heap.size w7) := HR6.out.below hb7
                      have HW7 : Hid (Nb A (w.heap.size + 1) w7) := HW6.out.below hb7
                      have HB7 : Hid (Below w.heap.size w w7) := HB6.out.trans (hb7.mono HB6.out.size)
                      clear hb7 HT6 HR6 HW6 HB6
                      go_simp
                      refine hK.out _ _ ?_ (fun hHeld => ?_)
                      · exact ⟨HT7.out.2.1, HT7.out.2.2.1⟩
                      clear hK K
                      unfold wv
                      obtain ⟨p0, p1, p2, p3⟩ := HW7.out
                      refine wpAnyH_ready (rs := [8]) (by kernel_rfl) (by simp) ?_
                      refine AllReadyH.cons (o := _) rfl (fun K hK => ?_) AllReadyH.nil
                      go_simp
                      refine hK.out _ _ ?_ (fun hHeld => ?_)
                      · exact ⟨((HT7.out.far (by omega)).far (by omega)).2.1, ((HT7.out.far (by omega)).far (by omega)).2.2.1⟩
                      clear hK K
                      refine wpAnyH_done (by kernel_rfl) ?_ _
                      refine NoPanic.normal ?_
                      clear p0 p1 p2 p3 hHeld
                      go_wp2_with fail
                      go_roundw
                      case rel =>
                        refine ⟨m + 1, by omega, by omega, by go_num, (HR7.out.far (by omega)).far (by omega), ?_, (HB7.out.setCell (p := ⟨w.heap.size + 1, 0, none⟩) (by show w.heap.size ≤ w.heap.size + 1; omega) _).setCell (p := ⟨w.heap.size + 1, 1, none⟩) (by show w.heap.size ≤ w.heap.size + 1; omega) _⟩
                        unfold Hid
                        rw [HS.out]
                        exact Nb.set HW7.out
                      case measure => simp [intOf]; omega
                · have hend : (m < s.size ∧ ¬ (m : Int) < 40) ∨ ¬ m < s.size := by omega
                  have HTK : Hid (s.data.toList.take m = s.data.toList.take 40) := by
                    unfold Hid
                    rcases hend with ⟨_, h⟩ | h
                    · have : m = 40 := by omega
                      rw [this]
                    · rw [List.take_of_length_le (by rw [size_len]; omega), List.take_of_length_le (by rw [size_len]; omega)]
                  rw [HTK.out] at HW
                  clear hlt HTK
                  obtain ⟨N, HNe⟩ := hid_exd ((numOf (s.data.toList.take 40) : Nat) : Int)
                  rw [← HNe.out] at HW
                  obtain ⟨x, x1, x2, hx, _⟩ := in_reach (N)
                  have HTT : Hid _ := told_text HC.out x x1 x2 (by rw [hx, HNe.out]; rfl)
                  have hxh : hi (N) = hi x := by unfold wv at hx; simp at hx; exact hx.1.symm
                  have hxl : lo (N) = lo x := by unfold wv at hx; simp at hx; exact hx.2.symm
                  have HXH := (show Hid _ from hxh)
                  have HXL := (show Hid _ from hxl)
                  clear hx hxh hxl
                  have hbb : w.heap.size + 1 < wr.heap.size := HW.out.1
                  rcases hend with ⟨hlt, hlt40⟩ | hlt
                  all_goals
                    obtain ⟨p0, p1, p2, p3⟩ := HW.out
                    go_wp2_with fail
                    clear p0 p1 p2 p3
                    have HRX := HR
                    have HWX : Hid (Nb x (w.heap.size + 1) wr) := by
                      obtain ⟨q0, q1, q2, q3⟩ := HW.out
                      rw [HXH.out] at q1
                      rw [HXL.out] at q2
                      exact ⟨q0, q1, q2, q3⟩
                    have HBX := HB
                    rw [HXH.out, HXL.out]
                    refine (refPrint_any x x1 x2 _).mono ?_
                    rintro e w8 ⟨rfl, hb8⟩
                    have HR8 : Hid (Nb 0 w.heap.size w8) := HRX.out.below hb8
                    have HW8 : Hid (Nb x (w.heap.size + 1) w8) := HWX.out.below hb8
                    have HB8 : Hid (Below w.heap.size w w8) := HBX.out.trans (hb8.mono HBX.out.size)
                    clear hb8
                    rcases HTT.out with ⟨h1, h2, h3⟩ | ⟨h1, h2⟩
                    · have hq := str_of h2
                      have HRP : Hid (RP s.data.toList x 0) := .inl ⟨h1, h3, rfl⟩
                      clear h1 h2 h3
                      obtain ⟨p0, p1, p2, p3⟩ := HW8.out
                      obtain ⟨r0, r1, r2, r3⟩ := HR8.out
                      go_wp2_with fail
                      have hs := Nb.set (y := x) HR8.out
                      obtain ⟨_, s1, s2, _⟩ := hs
                      refine bodyPost_ret (v := .tuple #[.agg #[.int .i64 (hi x), .int .u64 (lo x)], .int .i64 0]) (by simp [results, Try.results17, go_sem, s1, s2]) rfl ⟨⟨x, 0, HRP.out, rfl⟩, ?_⟩
                      exact (HB8.out.setCell (p := ⟨w.heap.size, 0, none⟩) (Nat.le_refl _) _).setCell (p := ⟨w.heap.size, 1, none⟩) (Nat.le_refl _) _
                    · have hq : (pr x == s.toList) = false := beq_eq_false_iff_ne.2 (str_ne h2)
                      have HRP : Hid (RP s.data.toList 0 11) := .inr (.inl ⟨HPF.out, h1, rfl, rfl⟩)
                      clear h1 h2
                      obtain ⟨r0, r1, r2, r3⟩ := HR8.out
                      go_wp2_with fail
                      have hs := Nb.set (y := 0) HR8.out
                      rw [HZ.out.1, HZ.out.2] at hs
                      obtain ⟨_, s1, s2, _⟩ := hs
                      rw [HZ.out.1] at s1
                      rw [HZ.out.2] at s2
                      refine bodyPost_ret (v := .tuple #[.agg #[.int .i64 0, .int .u64 0], .int .i64 11]) (by simp [results, Try.results17, go_sem, s1, s2]) rfl ⟨⟨0, 11, HRP.out, by unfold wv; rw [HZ.out.1, HZ.out.2]⟩, ?_⟩
                      exact (HB8.out.setCell (p := ⟨w.heap.size, 0, none⟩) (Nat.le_refl _) _).setCell (p := ⟨w.heap.size, 1, none⟩) (Nat.le_refl _) _
        · skip
          go_enter Try.func17, Try.ntmps17
          go_wp2_with fail
          clear hb1 hb2 hix0 hz
          go_loopw [6] (fun i wr => ∃ k : Nat, k ≤ s.size ∧ i = .int .i64 (k : Int) ∧ Hid (AllDigits (s.data.toList.take k)) ∧ wr = w.alloc (.cells #[.int .i64 0, .int .u64 0] 24)) (fun i _ => s.size - (intOf i).toNat)
          case atStart => exact ⟨0, by omega, rfl, (by intro c hc; simp at hc), rfl⟩
          case round =>
            obtain ⟨k, hk, rfl, HA, rfl⟩ := hrel
            by_cases hlt : k < s.size
            · obtain ⟨c, Hc⟩ := hid_exd (s[k].toNat : Int)
              have hixk : (s[k].toNat : Int) = c := Hc.out.symm
              by_cases l1 : c < 48
              · have HNF : Hid (¬ psF s.data.toList) := by
                  rw [HF.out]
                  rintro ⟨_, ha⟩
                  have := ha _ (get_mem s k hlt); have := Hc.out; omega
                go_wp2_with fail
                refine bodyPost_ret (v := .tuple #[.agg #[.int .i64 0, .int .u64 0], .int .i64 3]) (by simp [results, Try.results17, go_sem]) rfl ⟨⟨0, 3, .inr (.inr ⟨HNF.out, rfl, rfl⟩), by unfold wv; rw [HZ.out.1, HZ.out.2]⟩, (Below.refl _ _).alloc (Nat.le_refl _) _⟩
              · by_cases l2 : 57 < c
                · have HNF : Hid (¬ psF s.data.toList) := by
                    rw [HF.out]
                    rintro ⟨_, ha⟩
                    have := ha _ (get_mem s k hlt); have := Hc.out; omega
                  have b1 : decide (c < 48) = false := by simpa using l1
                  go_wp2_with fail
                  refine bodyPost_ret (v := .tuple #[.agg #[.int .i64 0, .int .u64 0], .int .i64 3]) (by simp [results, Try.results17, go_sem]) rfl ⟨⟨0, 3, .inr (.inr ⟨HNF.out, rfl, rfl⟩), by unfold wv; rw [HZ.out.1, HZ.out.2]⟩, (Below.refl _ _).alloc (Nat.le_refl _) _⟩
                · have b1 : decide (c < 48) = false := by simpa using l1
                  have b2 : decide (57 < c) = false := by simpa using l2
                  have HN : Hid (AllDigits (s.data.toList.take (k + 1))) := all_take s k hlt HA.out (by have := Hc.out; omega)
                  go_wp2_with fail
                  go_roundw
                  case rel => exact ⟨k + 1, by omega, by go_num, HN.out, by first | rfl | trivial⟩
                  case measure => simp [intOf]; omega
            · have HPF : Hid (psF s.data.toList) := by
                unfold Hid
                rw [HF.out]
                refine ⟨HHd.out, ?_⟩
                have := HA.out
                rw [List.take_of_length_le (by rw [size_len]; omega)] at this
                exact this
              have HAD : Hid (AllDigits s.data.toList) := (HF.out.1 HPF.out).2
              clear HA
              go_wp2_with fail
              obtain ⟨w3, H3⟩ := hid_exd ((w.alloc (.cells #[.int .i64 0, .int .u64 0] 24)).alloc (.cells #[.int .i64 0, .int .u64 0] 24))
              have HR3 : Hid (Nb 0 w.heap.size w3) := by
                rw [H3.out]
                refine ⟨by simp; omega, ?_, ?_, fun o => ?_⟩ <;> simp [go_sem, World.cell?_alloc_past, HZ.out.1, HZ.out.2]
              have HW3 : Hid (Nb 0 (w.heap.size + 1) w3) := by
                rw [H3.out]
                refine ⟨by simp, ?_, ?_, fun o => ?_⟩ <;> simp [go_sem, HZ.out.1, HZ.out.2]
              have HB3 : Hid (Below w.heap.size w w3) := by rw [H3.out]; exact ((Below.refl _ _).alloc (Nat.le_refl _) _).alloc (by simp) _
              rw [← H3.out]
              clear H3 hk hlt
              go_loopw [8] (fun i wr => ∃ m : Nat, m ≤ s.size ∧ m ≤ 40 ∧ i = .int .i64 (m : Int) ∧ Hid (Nb 0 w.heap.size wr) ∧ Hid (Nb (numOf (s.data.toList.take m) : Int) (w.heap.size + 1) wr) ∧ Hid (Below w.heap.size w wr)) (fun i _ => 40 - (intOf i).toNat)
              case atStart => exact ⟨0, by omega, by omega, rfl, HR3.out, HW3.out, HB3.out⟩
              case round =>
                clear HR3 HW3 HB3
                obtain ⟨m, hm, hm40, rfl, HR, HW, HB⟩ := hrel
                by_cases hlt : m < s.size ∧ m < 40
                · obtain ⟨hlt, hlt40⟩ := hlt
                  have hlt40' : (m : Int) < 40 := by omega
                  obtain ⟨A, HAe⟩ := hid_exd ((numOf (s.data.toList.take m) : Nat) : Int)
                  rw [← HAe.out] at HW
                  go_wp2_with fail
                  obtain ⟨w4, H4⟩ := hid_exd (wr.alloc (.cells #[.int .i64 0, .int .u64 0] 24))
                  obtain ⟨bt, Hbt⟩ := hid_exd wr.heap.size
                  have HT4 : Hid (Nb 0 bt w4) := by
                    rw [H4.out, Hbt.out]
                    refine ⟨by simp, ?_, ?_, fun o => ?_⟩ <;> simp [go_sem, HZ.out.1, HZ.out.2]
                  have HR4 : Hid (Nb 0 w.heap.size w4) := by rw [H4.out]; exact HR.out.below ((Below.refl _ _).alloc (Nat.le_refl _) _)
                  have HW4 : Hid (Nb A (w.heap.size + 1) w4) := by rw [H4.out]; exact HW.out.below ((Below.refl _ _).alloc (Nat.le_refl _) _)
                  have HB4 : Hid (Below w.heap.size w w4) := by rw [H4.out]; exact HB.out.alloc HB.out.size _
                  have hbt : w.heap.size + 1 < bt := by rw [Hbt.out]; exact HW.out.1
                  rw [← H4.out, ← Hbt.out]
                  clear H4 Hbt HR HW HB
                  go_loopw [10] (fun i wr => ∃ j : Nat, j ≤ 10 ∧ i = .int .i64 (j : Int) ∧ Hid (Nb (A * j) bt wr) ∧ Hid (Nb 0 w.heap.size wr) ∧ Hid (Nb A (w.heap.size + 1) wr) ∧ Hid (Below w.heap.size w wr)) (fun i _ => 10 - (intOf i).toNat)
                  case atStart => exact ⟨0, by omega, rfl, by rw [show A * ((0 : Nat) : Int) = 0 by simp]; exact HT4.out, HR4.out, HW4.out, HB4.out⟩
                  case round =>
                    clear HT4 HR4 HW4 HB4
                    obtain ⟨j, hj, rfl, HT, HR, HW, HB⟩ := hrel
                    by_cases hj10 : j < 10
                    · have hj10' : (j : Int) < 10 := by omega
                      obtain ⟨B, HBe⟩ := hid_exd (A * (j : Int))
                      rw [← HBe.out] at HT
                      obtain ⟨a0, a1, a2, a3⟩ := HT.out
                      obtain ⟨p0, p1, p2, p3⟩ := HW.out
                      go_wp2_with fail
                      clear a0 a1 a2 a3 p0 p1 p2 p3
                      refine (refAdd_any B A _).mono ?_
                      rintro e w5 ⟨rfl, hb5⟩
                      have HT5 : Hid (Nb B bt w5) := HT.out.below hb5
                      have HR5 : Hid (Nb 0 w.heap.size w5) := HR.out.below hb5
                      have HW5 : Hid (Nb A (w.heap.size + 1) w5) := HW.out.below hb5
                      have HB5 : Hid (Below w.heap.size w w5) := HB.out.trans (hb5.mono HB.out.size)
                      clear hb5 HT HR HW HB
                      unfold wv
                      obtain ⟨a0, a1, a2, a3⟩ := HT5.out
                      go_wp2_with fail
                      go_roundw
                      case rel =>
                        refine ⟨j + 1, by omega, by go_num, ?_, (HR5.out.far (by omega)).far (by omega), (HW5.out.far (by omega)).far (by omega), (HB5.out.setCell (p := ⟨bt, 0, none⟩) (by show w.heap.size ≤ bt; omega) _).setCell (p := ⟨bt, 1, none⟩) (by show w.heap.size ≤ bt; omega) _⟩
                        have e1 : A * ((j + 1 : Nat) : Int) = B + A := by rw [HBe.out, Int.natCast_add, Int.mul_add]; simp
                        unfold Hid
                        rw [e1]
                        exact Nb.set HT5.out
                      case measure => simp [intOf]; omega
                    · have hj1 : j = 10 := by omega
                      subst hj1
                      obtain ⟨c, Hc⟩ := hid_exd (s[m].toNat : Int)
                      have hixm : (s[m].toNat : Int) = c := Hc.out.symm
                      have hcd : 48 ≤ c ∧ c ≤ 57 := by have := HAD.out _ (get_mem s m hlt); have := Hc.out; omega
                      have hw1 : IntKind.i64.wrap c = c := by rw [IntKind.wrap_i64]; omega
                      have hw2 : IntKind.i64.wrap (c - 48) = c - 48 := by rw [IntKind.wrap_i64]; omega
                      obtain ⟨B, HBe⟩ := hid_exd (A * ((10 : Nat) : Int))
                      rw [← HBe.out] at HT
                      have HS : Hid (((numOf (s.data.toList.take (m + 1)) : Nat) : Int) = B + (c - 48)) := by
                        unfold Hid
                        rw [take_snocB s m hlt, numOf_snoc, HBe.out, HAe.out, Hc.out]
                        have := HAD.out _ (get_mem s m hlt)
                        omega
                      go_wp2_with fail
                      obtain ⟨w5, H5⟩ := hid_exd wr
                      rw [← H5.out] at HT HR HW HB ⊢
                      clear H5
                      obtain ⟨q0, q1, q2, q3⟩ := HT.out
                      refine wp_region_noPanic ?_
                      refine wp_region_held_drew (S := (fun w' => w'.cell? ⟨bt, 0, none⟩ = some (.int .i64 (hi B)) ∧ w'.cell? ⟨bt, 1, none⟩ = some (.int .u64 (lo B)))) (by kernel_rfl) ?_ (fun hHeld => ?_)
                      · exact ⟨q1, q2⟩
                      refine wpAnyH_take (i := 0) (v := .agg #[.int .i64 (hi B), .int .u64 (lo B)]) rfl (by kernel_rfl) (by kernel_rfl) (by kernel_rfl) (fun _ _ _ h => h) (Or.inl ⟨by rfl, ?_⟩) (by assumption) ?_
                      · (intro w1 hSw; (try dsimp only at hSw); go_simp)
                      simp only [List.getElem_toArray, List.getElem_cons_zero, Act.put, List.setIfInBounds_toArray, List.set_cons_zero, List.set_cons_succ]
                      refine wpAnyH_take (i := 1) (v := .string s) rfl (by kernel_rfl) (by kernel_rfl) (by kernel_rfl) (fun _ _ _ h => h) (Or.inl ⟨by rfl, ?_⟩) (by assumption) ?_
                      · (intro w1 hSw; (try dsimp only at hSw); go_simp)
                      simp only [List.getElem_toArray, List.getElem_cons_succ, List.getElem_cons_zero, Act.put, List.setIfInBounds_toArray, List.set_cons_zero, List.set_cons_succ]
                      refine wpAnyH_take (i := 2) (v := .int .i64 (m : Int)) rfl (by kernel_rfl) (by kernel_rfl) (by kernel_rfl) (fun _ _ _ h => h) (Or.inl ⟨by rfl, ?_⟩) (by assumption) ?_
                      · (intro w1 hSw; (try dsimp only at hSw); go_simp)
                      simp only [List.getElem_toArray, List.getElem_cons_succ, List.getElem_cons_zero, Act.put, List.setIfInBounds_toArray, List.set_cons_zero, List.set_cons_succ]
                      refine wpAnyH_take (i := 3) (v := .int .u8 c) rfl (by kernel_rfl) (by kernel_rfl) (by kernel_rfl) (fun _ _ _ h => h) (Or.inl ⟨by rfl, ?_⟩) (by assumption) ?_
                      · (intro w1 hSw; (try dsimp only at hSw); go_simp)
                      simp only [List.getElem_toArray, List.getElem_cons_succ, List.getElem_cons_zero, Act.put, List.setIfInBounds_toArray, List.set_cons_zero, List.set_cons_succ]
                      refine wpAnyH_take (i := 4) (v := .int .i64 c) rfl (by kernel_rfl) (by kernel_rfl) (by kernel_rfl) (fun _ _ _ h => h) (Or.inl ⟨by rfl, ?_⟩) (by assumption) ?_
                      · (intro w1 hSw; (try dsimp only at hSw); go_simp)
                      simp only [List.getElem_toArray, List.getElem_cons_succ, List.getElem_cons_zero, Act.put, List.setIfInBounds_toArray, List.set_cons_zero, List.set_cons_succ]
                      refine wpAnyH_take (i := 5) (v := .int .i64 (c - 48)) rfl (by kernel_rfl) (by kernel_rfl) (by kernel_rfl) (fun _ _ _ h => h) (Or.inl ⟨by rfl, ?_⟩) (by assumption) ?_
                      · (intro w1 hSw; (try dsimp only at hSw); go_simp)
                      simp only [List.getElem_toArray, List.getElem_cons_succ, List.getElem_cons_zero, Act.put, List.setIfInBounds_toArray, List.set_cons_zero, List.set_cons_succ]
                      clear q0 q1 q2 q3
                      refine wpAnyH_ready (rs := [6]) (by kernel_rfl) (by simp) ?_
                      refine AllReadyH.cons (o := _) rfl (fun K hK => ?_) AllReadyH.nil
                      go_simp
                      refine (refOf_any (c - 48) (by omega) (by omega) _).mono ?_
                      rintro e w6 ⟨rfl, hb6'⟩
                      have hb6 : Below w5.heap.size w5 w6 := (Below.refl _ _).drew.trans hb6'
                      have HT6 : Hid (Nb B bt w6) := HT.out.below hb6
                      have HR6 : Hid (Nb 0 w.heap.size w6) := HR.out.below hb6
                      have HW6 : Hid (Nb A (w.heap.size + 1) w6) := HW.out.below hb6
                      have HB6 : Hid (Below w.heap.size w w6) := HB.out.trans (hb6.mono HB.out.size)
                      clear hb6 hb6' HT HR HW HB
                      go_simp
                      refine hK.out _ _ ?_ (fun hHeld => ?_)
                      · exact ⟨HT6.out.2.1, HT6.out.2.2.1⟩
                      clear hK K
                      refine wpAnyH_ready (rs := [7]) (by kernel_rfl) (by simp) ?_
                      refine AllReadyH.cons (o := _) rfl (fun K hK => ?_) AllReadyH.nil
                      go_simp
                      refine (refAdd_any B (c - 48) _).mono ?_
                      rintro e w7 ⟨rfl, hb7⟩
                      have HT7 : Hid (Nb B bt w7) := HT6.out.below hb7
                      have HR7 : Hid (Nb 0 w.heap.size w7) := HR6.out.below hb7
                      have HW7 : Hid (Nb A (w.heap.size + 1) w7) := HW6.out.below hb7
                      have HB7 : Hid (Below w.heap.size w w7) := HB6.out.trans (hb7.mono HB6.out.size)
                      clear hb7 HT6 HR6 HW6 HB6
                      go_simp
                      refine hK.out _ _ ?_ (fun hHeld => ?_)
                      · exact ⟨HT7.out.2.1, HT7.out.2.2.1⟩
                      clear hK K
                      unfold wv
                      obtain ⟨p0, p1, p2, p3⟩ := HW7.out
                      refine wpAnyH_ready (rs := [8]) (by kernel_rfl) (by simp) ?_
                      refine AllReadyH.cons (o := _) rfl (fun K hK => ?_) AllReadyH.nil
                      go_simp
                      refine hK.out _ _ ?_ (fun hHeld => ?_)
                      · exact ⟨((HT7.out.far (by omega)).far (by omega)).2.1, ((HT7.out.far (by omega)).far (by omega)).2.2.1⟩
                      clear hK K
                      refine wpAnyH_done (by kernel_rfl) ?_ _
                      refine NoPanic.normal ?_
                      clear p0 p1 p2 p3 hHeld
                      go_wp2_with fail
                      go_roundw
                      case rel =>
                        refine ⟨m + 1, by omega, by omega, by go_num, (HR7.out.far (by omega)).far (by omega), ?_, (HB7.out.setCell (p := ⟨w.heap.size + 1, 0, none⟩) (by show w.heap.size ≤ w.heap.size + 1; omega) _).setCell (p := ⟨w.heap.size + 1, 1, none⟩) (by show w.heap.size ≤ w.heap.size + 1; omega) _⟩
                        unfold Hid
                        rw [HS.out]
                        exact Nb.set HW7.out
                      case measure => simp [intOf]; omega
                · have hend : (m < s.size ∧ ¬ (m : Int) < 40) ∨ ¬ m < s.size := by omega
                  have HTK : Hid (s.data.toList.take m = s.data.toList.take 40) := by
                    unfold Hid
                    rcases hend with ⟨_, h⟩ | h
                    · have : m = 40 := by omega
                      rw [this]
                    · rw [List.take_of_length_le (by rw [size_len]; omega), List.take_of_length_le (by rw [size_len]; omega)]
                  rw [HTK.out] at HW
                  clear hlt HTK
                  obtain ⟨N, HNe⟩ := hid_exd ((numOf (s.data.toList.take 40) : Nat) : Int)
                  rw [← HNe.out] at HW
                  obtain ⟨x, x1, x2, hx, _⟩ := in_reach (N)
                  have HTT : Hid _ := told_text HC.out x x1 x2 (by rw [hx, HNe.out]; rfl)
                  have hxh : hi (N) = hi x := by unfold wv at hx; simp at hx; exact hx.1.symm
                  have hxl : lo (N) = lo x := by unfold wv at hx; simp at hx; exact hx.2.symm
                  have HXH := (show Hid _ from hxh)
                  have HXL := (show Hid _ from hxl)
                  clear hx hxh hxl
                  have hbb : w.heap.size + 1 < wr.heap.size := HW.out.1
                  rcases hend with ⟨hlt, hlt40⟩ | hlt
                  all_goals
                    obtain ⟨p0, p1, p2, p3⟩ := HW.out
                    go_wp2_with fail
                    clear p0 p1 p2 p3
                    have HRX := HR
                    have HWX : Hid (Nb x (w.heap.size + 1) wr) := by
                      obtain ⟨q0, q1, q2, q3⟩ := HW.out
                      rw [HXH.out] at q1
                      rw [HXL.out] at q2
                      exact ⟨q0, q1, q2, q3⟩
                    have HBX := HB
                    rw [HXH.out, HXL.out]
                    refine (refPrint_any x x1 x2 _).mono ?_
                    rintro e w8 ⟨rfl, hb8⟩
                    have HR8 : Hid (Nb 0 w.heap.size w8) := HRX.out.below hb8
                    have HW8 : Hid (Nb x (w.heap.size + 1) w8) := HWX.out.below hb8
                    have HB8 : Hid (Below w.heap.size w w8) := HBX.out.trans (hb8.mono HBX.out.size)
                    clear hb8
                    rcases HTT.out with ⟨h1, h2, h3⟩ | ⟨h1, h2⟩
                    · have hq := str_of h2
                      have HRP : Hid (RP s.data.toList x 0) := .inl ⟨h1, h3, rfl⟩
                      clear h1 h2 h3
                      obtain ⟨p0, p1, p2, p3⟩ := HW8.out
                      obtain ⟨r0, r1, r2, r3⟩ := HR8.out
                      go_wp2_with fail
                      have hs := Nb.set (y := x) HR8.out
                      obtain ⟨_, s1, s2, _⟩ := hs
                      refine bodyPost_ret (v := .tuple #[.agg #[.int .i64 (hi x), .int .u64 (lo x)], .int .i64 0]) (by simp [results, Try.results17, go_sem, s1, s2]) rfl ⟨⟨x, 0, HRP.out, rfl⟩, ?_⟩
                      exact (HB8.out.setCell (p := ⟨w.heap.size, 0, none⟩) (Nat.le_refl _) _).setCell (p := ⟨w.heap.size, 1, none⟩) (Nat.le_refl _) _
                    · have hq : (pr x == s.toList) = false := beq_eq_false_iff_ne.2 (str_ne h2)
                      have HRP : Hid (RP s.data.toList 0 11) := .inr (.inl ⟨HPF.out, h1, rfl, rfl⟩)
                      clear h1 h2
                      obtain ⟨r0, r1, r2, r3⟩ := HR8.out
                      go_wp2_with fail
                      have hs := Nb.set (y := 0) HR8.out
                      rw [HZ.out.1, HZ.out.2] at hs
                      obtain ⟨_, s1, s2, _⟩ := hs
                      rw [HZ.out.1] at s1
                      rw [HZ.out.2] at s2
                      refine bodyPost_ret (v := .tuple #[.agg #[.int .i64 0, .int .u64 0], .int .i64 11]) (by simp [results, Try.results17, go_sem, s1, s2]) rfl ⟨⟨0, 11, HRP.out, by unfold wv; rw [HZ.out.1, HZ.out.2]⟩, ?_⟩
                      exact (HB8.out.setCell (p := ⟨w.heap.size, 0, none⟩) (Nat.le_refl _) _).setCell (p := ⟨w.heap.size, 1, none⟩) (Nat.le_refl _) _
end Go.Proofs.Ytldbglkapopbiaa
