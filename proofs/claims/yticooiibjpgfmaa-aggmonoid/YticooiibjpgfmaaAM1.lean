/- AggMonoid's pure facts: putting together hangs neither on the order nor on how; nothing changes nothing; what comes is right. -/
import Derived.Test.YticooiibjpgfmaaLS
namespace Go.Proofs.Yticooiibjpgfmaa
open Go.RowKit

/-- What is known, as a value. -/
def av (a : Ag) : Value := .agg #[.int .u64 a.c, .bool a.o, .int .i64 (hi a.s), .int .u64 (lo a.s), .int .i64 a.mn, .int .i64 a.mx]
/-- Nothing. -/
def az : Ag := ⟨0, false, 0, 0, 0⟩
theorem av_az : av az = .agg #[.int .u64 0, .bool false, .int .i64 0, .int .u64 0, .int .i64 0, .int .i64 0] := by
  unfold av az; simp only [hi0, lo0]
theorem right_az {a : Ag} (h : rightB a = true) (hc : a.c = 0) (k : AgOk a) : a = az := by
  obtain ⟨c, o, s, mn, mx⟩ := a
  have s1 := k.s1
  have s2 := k.s2
  unfold rightB at h
  dsimp only at hc h s1 s2
  rw [if_pos hc] at h
  simp only [Bool.and_eq_true, Bool.not_eq_true', beq_iff_eq] at h
  obtain ⟨⟨⟨⟨h1, h2⟩, h3⟩, h4⟩, h5⟩ := h
  unfold hi at h2
  unfold lo at h3
  have hs : s = 0 := by omega
  unfold az
  rw [hc, h1, hs, h4, h5]
theorem mon_comm {a b : Ag} (ha : rightB a = true) (hb : rightB b = true) (ka : AgOk a) (kb : AgOk b) : mrg a b = mrg b a := by
  by_cases h1 : a.c = 0
  · by_cases h2 : b.c = 0
    · rw [right_az ha h1 ka, right_az hb h2 kb]
    · unfold mrg; rw [if_pos h1, if_neg h2, if_pos h1]
  · by_cases h2 : b.c = 0
    · unfold mrg; rw [if_neg h1, if_pos h2, if_pos h2]
    · rw [mrg_both a b h1 h2, mrg_both b a h2 h1]
      have e1 : cntF a.c b.c = cntF b.c a.c := by unfold cntF; rw [Int.add_comm]
      have e2 : (ovF a.c b.c || a.o || b.o) = (ovF b.c a.c || b.o || a.o) := by
        unfold ovF; rw [Int.add_comm]; cases a.o <;> cases b.o <;> simp
      have e3 : minF a.mn b.mn = minF b.mn a.mn := by unfold minF; split <;> split <;> omega
      have e4 : maxF a.mx b.mx = maxF b.mx a.mx := by unfold maxF; split <;> split <;> omega
      rw [e1, e2, Int.add_comm a.s, e3, e4]
theorem mon_assoc {z x y : Ag} (kz : AgOk z) (kx : AgOk x) (ky : AgOk y) : mrg (mrg z x) y = mrg z (mrg x y) := by
  by_cases h1 : z.c = 0
  · have e1 : ∀ t, mrg z t = t := fun t => by unfold mrg; rw [if_pos h1]
    rw [e1, e1]
  · by_cases h2 : x.c = 0
    · have e1 : mrg z x = z := by unfold mrg; rw [if_neg h1, if_pos h2]
      have e2 : mrg x y = y := by unfold mrg; rw [if_pos h2]
      rw [e1, e2]
    · have hz : 0 < z.c := by have := kz.c1; omega
      have hx : 0 < x.c := by have := kx.c1; omega
      have p1 : 0 < cntF z.c x.c := by unfold cntF; split <;> omega
      by_cases h3 : y.c = 0
      · have e2 : mrg x y = x := by unfold mrg; rw [if_neg h2, if_pos h3]
        rw [e2, mrg_both z x h1 h2]
        unfold mrg
        dsimp only
        rw [if_neg (by omega), if_pos h3]
      · have hy : 0 < y.c := by have := ky.c1; omega
        have p2 : 0 < cntF x.c y.c := by unfold cntF; split <;> omega
        rw [mrg_both z x h1 h2, mrg_both x y h2 h3, mrg_both _ y (by dsimp only; omega) h3, mrg_both z _ h1 (by dsimp only; omega)]
        dsimp only
        have e1 : cntF (cntF z.c x.c) y.c = cntF z.c (cntF x.c y.c) := by unfold cntF; split <;> split <;> split <;> (try split) <;> omega
        have e2 : (ovF (cntF z.c x.c) y.c || (ovF z.c x.c || z.o || x.o) || y.o) = (ovF z.c (cntF x.c y.c) || z.o || (ovF x.c y.c || x.o || y.o)) := by
          unfold ovF cntF
          cases z.o <;> cases x.o <;> cases y.o <;> simp
          rw [Bool.eq_iff_iff]
          simp
          split <;> split <;> omega
        have e3 : minF (minF z.mn x.mn) y.mn = minF z.mn (minF x.mn y.mn) := by unfold minF; (repeat' split) <;> omega
        have e4 : maxF (maxF z.mx x.mx) y.mx = maxF z.mx (maxF x.mx y.mx) := by unfold maxF; (repeat' split) <;> omega
        rw [e1, e2, Int.add_assoc, e3, e4]
theorem mon_left {a : Ag} : mrg az a = a := by unfold mrg az; rw [if_pos rfl]
theorem mon_right {a : Ag} (ha : rightB a = true) (ka : AgOk a) : mrg a az = a := by
  by_cases h1 : a.c = 0
  · rw [right_az ha h1 ka]; exact mon_left
  · unfold mrg; rw [if_neg h1]; rfl
/-- The count is a count. -/
def Cn (a : Ag) : Prop := 0 ≤ a.c ∧ a.c < 18446744073709551616
theorem mrg_cn {a b : Ag} (ha : Cn a) (hb : Cn b) : Cn (mrg a b) := by
  unfold Cn at *
  unfold mrg
  split
  · exact hb
  · split
    · exact ha
    · dsimp only; unfold cntF; split <;> omega
theorem mon_ok {a b : Ag} (ha : rightB a = true) (hb : rightB b = true) (ca : Cn a) (cb : Cn b) : rightB (mrg a b) = true := by
  unfold mrg
  by_cases h1 : a.c = 0
  · rw [if_pos h1]; exact hb
  · rw [if_neg h1]
    by_cases h2 : b.c = 0
    · rw [if_pos h2]; exact ha
    · rw [if_neg h2]
      obtain ⟨a1, a2⟩ := ca
      obtain ⟨b1, b2⟩ := cb
      unfold rightB at ha hb ⊢
      rw [if_neg h1] at ha
      rw [if_neg h2] at hb
      simp only [Bool.and_eq_true, decide_eq_true_eq, Bool.or_eq_true, Bool.not_eq_true', beq_iff_eq] at ha hb
      have hc : 0 < cntF a.c b.c := by unfold cntF; split <;> omega
      show (if cntF a.c b.c = 0 then _ else _) = true
      rw [if_neg (by omega)]
      simp only [Bool.and_eq_true, decide_eq_true_eq, Bool.or_eq_true, Bool.not_eq_true', beq_iff_eq]
      refine ⟨by unfold minF maxF; split <;> split <;> omega, ?_⟩
      by_cases h : 18446744073709551616 ≤ a.c + b.c
      · right; unfold cntF; rw [if_neg (by omega)]
      · have hov : ovF a.c b.c = false := by unfold ovF; simp; omega
        rw [hov]
        cases ho : a.o
        · cases ho2 : b.o
          · left; rfl
          · rcases hb.2 with h2 | h2
            · rw [ho2] at h2; cases h2
            · omega
        · rcases ha.2 with h2 | h2
          · rw [ho] at h2; cases h2
          · omega
theorem merge_av (a b : Ag) (ca : Cn a) (cb : Cn b) (w : World) : Calls Try.prog 9 #[av a, av b] w fun e w' => e = .returned (av (mrg a b)) ∧ Below w.heap.size w w' := merge_any a b ca.1 ca.2 cb.1 cb.2 w
theorem right_av (a : Ag) (w : World) : Calls Try.prog 8 #[av a] w fun e w' => e = .returned (.bool (rightB a)) ∧ Below w.heap.size w w' := right_any a w
end Go.Proofs.Yticooiibjpgfmaa
