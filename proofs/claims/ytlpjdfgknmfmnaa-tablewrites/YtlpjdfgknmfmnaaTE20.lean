/- X4 AY1 TR1 GAp, joined. -/
import Derived.Test.YtlpjdfgknmfmnaaTE2
import Derived.Test.YtlpjdfgknmfmnaaTE3
import Derived.Test.YtlpjdfgknmfmnaaTE6
import Derived.Test.YtlpjdfgknmfmnaaTE7
import Derived.Test.YtlpjdfgknmfmnaaTE18
import Derived.Test.YtlpjdfgknmfmnaaTE19
import Derived.Laws.AppendOwn
import Derived.Laws.AppendOwnNone
/- The contract of the reference's Read. -/
namespace Go.Proofs.Ytlpjdfgknmfmnaa
open Go.RowKit

/-- What the first m bytes of sixteen tell, the least first. -/
def rdF (zs : List Int) (m j : Nat) : Int := if 15 - j < m then zs.getD (15 - j) 0 else 0
/-- The cell of a result that is not yet told. -/
def RBox (w : World) (b : Nat) : Prop := b < w.heap.size ∧ w.cell? ⟨b, 0, none⟩ = some (.int .i64 0) ∧ w.cell? ⟨b, 1, none⟩ = some (.int .u64 0) ∧ w.frozen? ⟨b, 0, none⟩ = false ∧ w.frozen? ⟨b, 1, none⟩ = false
theorem RBox.below {w w' : World} {b : Nat} (h : RBox w b) (hb : Below w.heap.size w w') : RBox w' b := by
  have := hb.size
  obtain ⟨h0, h1, h2, h3, h4⟩ := h
  exact ⟨by omega, (hb.cell (p := ⟨b, 0, none⟩) h0).trans h1, (hb.cell (p := ⟨b, 1, none⟩) h0).trans h2, (hb.frozen (p := ⟨b, 0, none⟩) h0).trans h3, (hb.frozen (p := ⟨b, 1, none⟩) h0).trans h4⟩
theorem RBox.far {w : World} {b b' i : Nat} {u : Value} (h : RBox w b) (hne : b' ≠ b) : RBox (w.setCell ⟨b', i, none⟩ u) b := by
  obtain ⟨h0, h1, h2, h3, h4⟩ := h
  refine ⟨by simp [World.setCell]; exact h0, ?_, ?_, by rw [World.frozen?_setCell]; exact h3, by rw [World.frozen?_setCell]; exact h4⟩
  · rw [World.cell?_setCell_other (h := by intro hh; injection hh with e1 _; exact hne e1)]; exact h1
  · rw [World.cell?_setCell_other (h := by intro hh; injection hh with e1 _; exact hne e1)]; exact h2
end Go.Proofs.Ytlpjdfgknmfmnaa

/- The contracts of the reference's Eight, Number, Right of layer 2. -/
namespace Go.Proofs.Ytlpjdfgknmfmnaa
open Go.RowKit

theorem rw01 (H L U : Int) (l1 : 0 ≤ L) (l2 : L < 18446744073709551616) (hU : IntKind.u64.wrap H = U) (u1 : 0 ≤ U) (u2 : U < 18446744073709551616) (w : World) :
    Calls Try.prog 62 #[.agg #[.int .i64 H, .int .u64 L]] w fun e w' => ∃ v, e = .returned v ∧ Own w' w.heap.size v (u8s U.toNat ++ u8s L.toNat) ∧ Below w.heap.size w w' := by
  refine (refWrite_walk H L U l1 l2 hU u1 u2 w).mono ?_
  rintro e w' ⟨v, rfl, ho, hb⟩
  refine ⟨v, rfl, ?_, hb⟩
  have hc := cells16 U.toNat L.toNat
  rw [Int.toNat_of_nonneg u1, Int.toNat_of_nonneg l1] at hc
  rw [wrZ_all, hc] at ho
  exact ho
set_option maxRecDepth 100000 in
set_option maxHeartbeats 1000000 in
theorem eight_any (x : Int) (h1 : 0 ≤ x) (h2 : x < 18446744073709551616) (w : World) :
    Calls Try.prog 26 #[.int .u64 x] w fun e w' => ∃ v, e = .returned v ∧ Reads w' v (u8s x.toNat) ∧ Below w.heap.size w w' := by
  go_enter Try.func26, Try.ntmps26
  go_wp2_with fail
  refine (rw01 0 x 0 h1 h2 (by decide) (by decide) (by decide) _).mono ?_
  rintro e w1 ⟨v1, rfl, ho1, hb1⟩
  have HB1 : Hid (Below w.heap.size w w1) := hb1
  obtain ⟨a1, c1, rfl, -⟩ := ho1.form
  obtain ⟨P, HP⟩ := hid_ex (u8s (0 : Int).toNat ++ u8s x.toNat)
  have hPl : P.length = 16 := by rw [HP.out]; simp [u8s_len]
  have HPd : Hid (P.drop 8 = u8s x.toNat) := by rw [HP.out]; exact List.drop_left (l₁ := u8s (0 : Int).toNat)
  rw [← HP.out] at ho1
  rw [← HP.out]
  obtain ⟨a2, f2, hs2, hr2⟩ := sl_from ho1.reads (c := 8) (by omega)
  rw [hPl] at hs2 hr2
  have k2 : ∀ w', (Instr.slice 25 (.slice a1 16 c1) (some (.int .i64 8)) none none).run Try.prog w' = .ok (.slice a2 8 f2) w' := hs2
  have HR2 : Hid (Reads w1 (.slice a2 8 f2) (u8s x.toNat)) := by rw [← HPd.out]; exact hr2
  rw [hPl]
  clear hb1 ho1 hs2 hr2 hPl
  go_wp2_with fail
  go_ret
  exact ⟨_, rfl, HR2.out, HB1.out⟩
theorem bv_snoc (l : List UInt8) (x : UInt8) : bv (l ++ [x]) = bv l * 256 + x.toNat := by
  induction l with
  | nil => simp [bv]
  | cons y l ih =>
    simp only [List.cons_append, bv, ih, List.length_append, List.length_singleton, Nat.pow_succ]
    rw [Nat.add_mul, Nat.mul_assoc]; omega
set_option maxRecDepth 100000 in
set_option maxHeartbeats 1000000 in
theorem number_any (v : Value) (p : List UInt8) (hp : p.length = 8) (w : World) (hR : Reads w v p) :
    Calls Try.prog 75 #[v] w fun e w' => e = .returned (.int .u64 ((bv p : Nat) : Int)) ∧ w' = w := by
  obtain ⟨a, c, rfl, -⟩ := hR.form
  have HR : Hid (Reads w (.slice a p.length c) p) := hR
  have H8 : Hid (bv p < 18446744073709551616) := bv8_lt hp
  have HT : Hid (∀ k (h : k < p.length), bv (p.take (k + 1)) = bv (p.take k) * 256 + p[k].toNat) := by
    intro k h
    rw [List.take_add_one, List.getElem?_eq_getElem h]
    exact bv_snoc _ _
  have HL : Hid (∀ k, k < p.length → bv (p.take k) * 256 + 255 < 18446744073709551616) := by
    intro k h
    have h1 := bv_lt (p.take k)
    rw [List.length_take, Nat.min_eq_left (by omega)] at h1
    have h2 : 256 ^ k ≤ 256 ^ 7 := Nat.pow_le_pow_right (by omega) (by omega)
    have e : (256 : Nat) ^ 7 = 72057594037927936 := by decide
    rw [e] at h2
    omega
  clear hR
  rw [hp]
  go_enter Try.func75, Try.ntmps75
  go_wp2_with fail
  go_loop [3, 4] (fun n i => ∃ k : Nat, k ≤ 8 ∧ i = .int .i64 (k : Int) ∧ n = .int .u64 ((bv (p.take k) : Nat) : Int)) (fun _ i => 8 - (intOf i).toNat)
  case atStart => exact ⟨0, by omega, rfl, rfl⟩
  case round =>
    obtain ⟨k, hk, rfl, rfl⟩ := hrel
    by_cases hlt : k < 8
    · obtain ⟨b1, o1, rfl, _, d1⟩ := HR.out.at k (by omega)
      unfold bc at d1
      have HT2 := HT.out k (by omega)
      have HL2 := HL.out k (by omega)
      obtain ⟨x, HX⟩ := hid_ex p[k]
      rw [← HX.out] at d1 HT2
      obtain ⟨N, HN⟩ := hid_ex (bv (p.take k))
      rw [← HN.out] at HT2 HL2
      rw [← HN.out]
      have hx := UInt8.toNat_lt x
      have hki : (k : Int) < 8 := by omega
      obtain ⟨M, HM⟩ := hid_ex (N * 256)
      have hw1 : IntKind.u64.wrap (256 * (N : Int)) = (M : Int) := by rw [IntKind.wrap_u64, HM.out]; omega
      have hw2 : IntKind.u64.wrap ((M : Int) + (x.toNat : Int)) = ((M + x.toNat : Nat) : Int) := by rw [IntKind.wrap_u64, HM.out]; omega
      have HE : Hid (bv (p.take (k + 1)) = M + x.toNat) := by unfold Hid; rw [HT2, HM.out]
      clear HT2 HL2
      go_wp2_with fail
      go_round
      case rel => exact ⟨k + 1, by omega, by go_num, by rw [HE.out]; go_num⟩
      case measure => simp [intOf]; omega
    · have hk8 : k = 8 := by omega
      subst hk8
      rw [List.take_of_length_le (by omega)]
      go_wp2_with fail
      go_ret
      exact ⟨rfl, rfl⟩
set_option maxRecDepth 100000 in
set_option maxHeartbeats 1000000 in
theorem refRightA (a : Ag) (w : World) :
    Calls Try.prog 61 #[.agg #[.int .u64 a.c, .bool a.o, .int .i64 (hi a.s), .int .u64 (lo a.s), .int .i64 a.mn, .int .i64 a.mx]] w fun e w' => e = .returned (.bool (rightB a)) ∧ Below w.heap.size w w' := by
  obtain ⟨R, HR⟩ := hid_ex (rightB a)
  rw [← HR.out]
  go_enter Try.func61, Try.ntmps61
  go_wp2_with fail
  all_goals go_ret
  all_goals refine ⟨?_, (Below.refl _ _).alloc (Nat.le_refl _) _⟩
  all_goals (rw [HR.out]; unfold rightB; simp_all)
end Go.Proofs.Ytlpjdfgknmfmnaa

/- The reference's Right of layer 10. -/
namespace Go.Proofs.Ytlpjdfgknmfmnaa
open Go.RowKit

/-- The key ahead. -/
def pkL (L : List Et) : Nat → Ks
  | 0 => []
  | j + 1 => ((L[j]?).map (·.1)).getD []
theorem leq_cmp (a b : Ks) : (Op.bytesLess a b || a == b) = decide (0 ≤ Lib.compareBytes b a) := by
  rw [Bool.eq_iff_iff, Bool.or_eq_true, decide_eq_true_iff, rless_ltK, decide_eq_true_iff, beq_iff_eq]
  rcases ltK_tri a b with h | h | h
  · exact ⟨fun _ => by have h' : Lib.compareBytes a b = -1 := h; have := cmp_swap a b; omega, fun _ => .inl h⟩
  · subst h
    exact ⟨fun _ => by rw [cmp_refl]; decide, fun _ => .inr rfl⟩
  · refine ⟨fun q => ?_, fun q => ?_⟩
    · rcases q with q | q
      · exact absurd h (ltK_asymm q)
      · subst q; exact absurd h (ltK_irrefl _)
    · have h' : Lib.compareBytes b a = -1 := h
      omega
set_option maxRecDepth 100000 in
set_option maxHeartbeats 4000000 in
theorem refRight10_any (v : Value) (L : List Et) (w : World) (h : TRd w v L) : Calls Try.prog 23 #[v] w fun e w' => e = .returned (.int .i64 (tmF L)) ∧ Below w.heap.size w w' := by
  obtain ⟨a, cap, rfl, hc, hm⟩ : ∃ a cap, v = .slice a L.length cap ∧ L.length ≤ cap ∧ cap ≤ maxLen := by obtain ⟨a, cap, h1, h2, h3, _⟩ := h; exact ⟨a, cap, h1, h2, h3⟩
  unfold maxLen at hm
  have HR : Hid (TRd w (.slice a L.length cap) L) := h
  obtain ⟨N, HN⟩ : ∃ n, Hid (L.length = n) := ⟨_, rfl⟩
  rw [HN.out] at HR hc ⊢
  obtain ⟨R, HRe⟩ := hid_ex (tmF L)
  rw [← HRe.out]
  clear h
  go_enter Try.func23, Try.ntmps23
  by_cases h1 : 4096 < N
  · have h1' : (4096 : Int) < (N : Int) := by omega
    have HE : Hid (R = 2) := by unfold Hid; rw [HRe.out]; unfold tmF; rw [HN.out, if_pos h1]
    go_wp2_with fail
    go_ret
    exact ⟨by rw [HE.out]; rfl, Below.refl _ _⟩
  · have h1' : ¬ (4096 : Int) < (N : Int) := by omega
    have HE : Hid (R = tmB [] L) := by unfold Hid; rw [HRe.out]; unfold tmF; rw [HN.out, if_neg h1]
    clear HRe
    go_wp2_with fail
    go_loopw [3] (fun i wr => ∃ (j : Nat), i = .int .i64 (j : Int) ∧ j ≤ N ∧ Hid (R = tmB (pkL L j) (L.drop j)) ∧ Hid (Below w.heap.size w wr)) (fun i _ => N - (intOf i).toNat)
    case atStart => exact ⟨0, rfl, by omega, HE, Below.refl _ _⟩
    case round =>
      obtain ⟨j, rfl, hj, HT, HB⟩ := hrel
      by_cases hlt : j < N
      · have hlt' : (j : Int) < (N : Int) := by omega
        have hjl : j < L.length := by rw [HN.out]; exact hlt
        obtain ⟨x, Hx⟩ := hid_ex L[j]
        have Hdr : Hid (L.drop j = x :: L.drop (j + 1)) := by unfold Hid; rw [Hx.out]; exact List.drop_eq_getElem_cons hjl
        have Hpk : Hid (pkL L (j + 1) = x.1) := by show ((L[j]?).map (·.1)).getD [] = x.1; rw [List.getElem?_eq_getElem hjl, Hx.out]; rfl
        obtain ⟨b, off, kv, rfl, hbw, hcs, hrk, hag⟩ := (HR.out.below HB.out).at hjl Hx.out
        obtain ⟨k, A⟩ := x
        simp only at hcs hrk hag
        obtain ⟨ka, kc, rfl, hkm⟩ := hrk.form
        unfold maxLen at hkm
        obtain ⟨KL, HKL⟩ : ∃ n, Hid (k.length = n) := ⟨_, rfl⟩
        rw [HKL.out] at hcs hrk hkm
        have HRk : Hid (Reads wr (.slice ka KL kc) k) := hrk
        have HCS : Hid _ := hcs
        have c0 := hcs 0 (by decide)
        have c1 := hcs 1 (by decide)
        have c2 := hcs 2 (by decide)
        have c3 := hcs 3 (by decide)
        have c4 := hcs 4 (by decide)
        have c5 := hcs 5 (by decide)
        have c6 := hcs 6 (by decide)
        simp only [e7, List.getElem_cons_succ, List.getElem_cons_zero, Nat.add_zero] at c0 c1 c2 c3 c4 c5 c6
        clear hcs hrk hag Hx
        by_cases g1 : KL < 1
        · obtain rfl : KL = 0 := by omega
          have HQ : Hid (R = 40) := by unfold Hid; rw [HT.out, Hdr.out, tmB, if_pos (.inl (by rw [HKL.out]; exact g1))]
          go_wp2_with fail
          go_ret
          exact ⟨by rw [HQ.out]; rfl, HB.out⟩
        · have g1' : ((KL : Int) == 0) = false := by simp; omega
          by_cases g2 : 256 < KL
          · have g2' : (256 : Int) < (KL : Int) := by omega
            have HQ : Hid (R = 40) := by unfold Hid; rw [HT.out, Hdr.out, tmB, if_pos (.inr (by rw [HKL.out]; exact g2))]
            go_wp2_with fail
            go_ret
            exact ⟨by rw [HQ.out]; rfl, HB.out⟩
          · have g2' : ¬ (256 : Int) < (KL : Int) := by omega
            have d2 : decide ((256 : Int) < (KL : Int)) = false := decide_eq_false g2'
            have HT2 : Hid (R = if A.c = 0 ∨ rightB A = false then 3 else if 0 ≤ Lib.compareBytes (pkL L j) k then 50 else tmB k (L.drop (j + 1))) := by unfold Hid; rw [HT.out, Hdr.out, tmB, if_neg (by rw [HKL.out]; omega)]
            by_cases g3 : A.c = 0
            · have HQ : Hid (R = 3) := by unfold Hid; rw [HT2.out, if_pos (.inl g3)]
              go_wp2_with fail
              go_ret
              exact ⟨by rw [HQ.out]; rfl, HB.out⟩
            · have g3' : (A.c == 0) = false := by simpa using g3
              have HRt : Hid (∀ w, Calls Try.prog 61 #[.agg #[.int .u64 A.c, .bool A.o, .int .i64 (hi A.s), .int .u64 (lo A.s), .int .i64 A.mn, .int .i64 A.mx]] w _) := fun w => refRightA A w
              obtain ⟨rb, Hrb⟩ := hid_ex (rightB A)
              rw [← Hrb.out] at HRt HT2
              go_wp2_with fail
              refine (HRt.out _).mono ?_
              clear HRt
              rintro e w3 ⟨rfl, hb3⟩
              have HB3 : Hid (Below w.heap.size w w3) := HB.out.trans (hb3.mono HB.out.size)
              have HRk3 : Hid (Reads w3 (.slice ka KL kc) k) := HRk.out.below hb3
              have c0' := (hb3.cell (p := ⟨b, off + j * 7, none⟩) hbw).trans c0
              clear hb3 c0 c1 c2 c3 c4 c5 c6
              cases rb with
              | false =>
                have HQ : Hid (R = 3) := by unfold Hid; rw [HT2.out, if_pos (.inr rfl)]
                go_wp2_with fail
                go_ret
                exact ⟨by rw [HQ.out]; rfl, HB3.out⟩
              | true =>
                have HT3 : Hid (R = if 0 ≤ Lib.compareBytes (pkL L j) k then 50 else tmB k (L.drop (j + 1))) := by unfold Hid; rw [HT2.out, if_neg (by simp [g3])]
                by_cases hj0 : j = 0
                · subst hj0
                  have HQ : Hid (R = tmB k (L.drop (0 + 1))) := by
                    unfold Hid
                    rw [HT3.out, if_neg]
                    have hlk : ltK [] k := lt_nil k (by rw [HKL.out]; omega)
                    have : Lib.compareBytes [] k = -1 := hlk
                    show ¬ (0 : Int) ≤ Lib.compareBytes [] k
                    omega
                  go_wp2_with fail
                  go_quiet (fail)
                  go_wp2_with fail
                  go_roundw
                  case rel => exact ⟨0 + 1, by go_num, by omega, by rw [Hpk.out]; exact HQ, below_drewN HB3.out _⟩
                  case measure => simp [intOf]; omega
                · obtain ⟨j', rfl⟩ : ∃ j', j = j' + 1 := ⟨j - 1, by omega⟩
                  have hj' : j' < L.length := by omega
                  obtain ⟨y, Hy⟩ := hid_ex L[j']
                  have Hpk2 : Hid (pkL L (j' + 1) = y.1) := by show ((L[j']?).map (·.1)).getD [] = y.1; rw [List.getElem?_eq_getElem hj', Hy.out]; rfl
                  obtain ⟨b2, off2, kv2, he2, hbw2, hcs2, hrk2, _⟩ := (HR.out.below HB3.out).at hj' Hy.out
                  cases he2
                  have d0 := hcs2 0 (by decide)
                  simp only [e7, List.getElem_cons_zero, Nat.add_zero] at d0
                  obtain ⟨k2, A2⟩ := y
                  simp only at hrk2 d0 Hpk2
                  obtain ⟨ka2, kc2, rfl, hkm2⟩ := hrk2.form
                  obtain ⟨KL2, HKL2⟩ : ∃ n, Hid (k2.length = n) := ⟨_, rfl⟩
                  rw [HKL2.out] at d0 hrk2 hkm2
                  have hq1 : ∀ n, (convert 25 9 (.slice ka KL kc)).run Try.prog (w3.drewN n) = .ok (.string ⟨k.toArray⟩) (w3.drewN n) := fun n => reads_text (HRk3.out.below (below_drewN (Below.refl _ _) n))
                  have hq2 : ∀ n, (convert 25 9 (.slice ka2 KL2 kc2)).run Try.prog (w3.drewN n) = .ok (.string ⟨k2.toArray⟩) (w3.drewN n) := fun n => reads_text (hrk2.below (below_drewN (Below.refl _ _) n))
                  have hle : (Op.bytesLess k k2 || k == k2) = decide (0 ≤ Lib.compareBytes k2 k) := leq_cmp k k2
                  rw [Hpk2.out] at HT3
                  obtain ⟨C, HC⟩ := hid_ex (Lib.compareBytes k2 k)
                  rw [← HC.out] at HT3 hle
                  have hpos : (0 : Int) < ((j' + 1 : Nat) : Int) := by omega
                  have hpos' : (0 : Int) < (j' : Int) + 1 := by omega
                  have hsb : ((j' + 1 : Nat) : Int) - 1 = (j' : Int) := by omega
                  clear hrk2 hcs2
                  by_cases g4 : 0 ≤ C
                  · have hle' : (Op.bytesLess k k2 || k == k2) = true := by rw [hle]; exact decide_eq_true g4
                    have HQ : Hid (R = 50) := by unfold Hid; rw [HT3.out, if_pos g4]
                    clear hle
                    go_wp2_with fail
                    go_quiet (fail)
                    go_wp2_with fail
                    go_ret
                    exact ⟨by rw [HQ.out]; rfl, below_drewN HB3.out _⟩
                  · have hle' : (Op.bytesLess k k2 || k == k2) = false := by rw [hle]; exact decide_eq_false g4
                    have HQ : Hid (R = tmB k (L.drop (j' + 1 + 1))) := by unfold Hid; rw [HT3.out, if_neg g4]
                    clear hle
                    go_wp2_with fail
                    go_quiet (fail)
                    go_wp2_with fail
                    go_roundw
                    case rel => exact ⟨j' + 1 + 1, by go_num, by omega, by rw [Hpk.out]; exact HQ, below_drewN HB3.out _⟩
                    case measure => simp [intOf]; omega
      · have hlt' : ¬ (j : Int) < (N : Int) := by omega
        have HQ : Hid (R = 0) := by unfold Hid; rw [HT.out, List.drop_eq_nil_of_le (by rw [HN.out]; omega)]; rfl
        go_wp2_with fail
        go_ret
        exact ⟨by rw [HQ.out]; rfl, HB.out⟩
end Go.Proofs.Ytlpjdfgknmfmnaa

/- Append to a row whose capacity may end ahead of its block, with where the new row lies; what a call touches, as a set of blocks. -/
namespace Go.Proofs.Ytlpjdfgknmfmnaa
open Go.RowKit

/-- Nothing that was there has turned but blocks of O. -/
structure Onl (O : Nat → Prop) (w w' : World) : Prop where
  os : w'.os = w.os
  tape : w'.tape = w.tape
  output : w'.output = w.output
  size : w.heap.size ≤ w'.heap.size
  block : ∀ k, k < w.heap.size → ¬ O k → w'.heap[k]? = w.heap[k]?
/-- O, and what is new. -/
def Grw (O : Nat → Prop) (w w' : World) (k : Nat) : Prop := O k ∨ (w.heap.size ≤ k ∧ k < w'.heap.size)
theorem Onl.refl (O : Nat → Prop) (w : World) : Onl O w w := ⟨rfl, rfl, rfl, Nat.le_refl _, fun _ _ _ => rfl⟩
theorem Onl.trans {O : Nat → Prop} {w w1 w2 : World} (h : Onl O w w1) (h' : Onl (Grw O w w1) w1 w2) : Onl O w w2 :=
  ⟨h'.os.trans h.os, h'.tape.trans h.tape, h'.output.trans h.output, Nat.le_trans h.size h'.size, fun k hk ho => (h'.block k (Nat.lt_of_lt_of_le hk h.size) (fun q => q.elim ho (fun r => by omega))).trans (h.block k hk ho)⟩
theorem Onl.mono {O O' : Nat → Prop} {w w' : World} (h : Onl O w w') (hO : ∀ k, O k → O' k) : Onl O' w w' := ⟨h.os, h.tape, h.output, h.size, fun k hk ho => h.block k hk (fun q => ho (hO k q))⟩
theorem Onl.then {O : Nat → Prop} {w w1 w2 : World} (h : Onl O w w1) (h' : Onl O w1 w2) : Onl O w w2 := h.trans (h'.mono fun _ q => .inl q)
theorem Onl.below {O : Nat → Prop} {w w' : World} {base : Nat} (h : Onl O w w') (hb : base ≤ w.heap.size) (hO : ∀ k, O k → base ≤ k) : Below base w w' := ⟨h.os, h.tape, h.output, h.size, fun k hk => h.block k (by omega) (fun q => by have := hO k q; omega)⟩
theorem onl_of_below {O : Nat → Prop} {w w' : World} (h : Below w.heap.size w w') : Onl O w w' := ⟨h.os, h.tape, h.output, h.size, fun k hk _ => h.block k hk⟩
theorem Grw.lt {O : Nat → Prop} {w w' : World} (h : ∀ k, O k → k < w.heap.size) (hs : w.heap.size ≤ w'.heap.size) : ∀ k, Grw O w w' k → k < w'.heap.size := fun k hk => hk.elim (fun q => Nat.lt_of_lt_of_le (h k q) hs) (fun q => q.2)
theorem Grw.trans {O : Nat → Prop} {w w1 w2 : World} (h1 : w.heap.size ≤ w1.heap.size) (h2 : w1.heap.size ≤ w2.heap.size) : ∀ k, Grw (Grw O w w1) w1 w2 k → Grw O w w2 k := fun k hk => by
  rcases hk with (q | q) | q
  · exact .inl q
  · exact .inr ⟨q.1, by omega⟩
  · exact .inr ⟨by omega, q.2⟩
theorem Onl.set {O : Nat → Prop} {w : World} {a : Addr} (h : O a.block) (v : Value) : Onl O w (w.setCell a v) := by
  have hb := (Below.refl 0 w).setCell (p := a) (Nat.zero_le _) v
  exact ⟨hb.os, hb.tape, hb.output, hb.size, fun k _ ho => Below.heap_setCell _ _ _ _ (fun e => ho (e ▸ h))⟩
theorem Onl.alloc {O : Nat → Prop} {w : World} (o : Obj) : Onl O w (w.alloc o) := onl_of_below ((Below.refl _ _).alloc (Nat.le_refl _) _)
theorem Onl.grown {O : Nat → Prop} {w w' : World} {row : Option Nat} (h : w.grownBy w' row) (hr : ∀ k, row = some k → O k) : Onl O w w' := ⟨h.os, h.tape, h.output, h.size, fun k hk ho => h.block k hk (fun e => ho (hr k e.symm))⟩
/-- A row of one's own, in a block that may go on behind its capacity. -/
def GOwn (w : World) (e : TypeId) (size : Nat) (v : Value) (n : Nat) (xs : List Value) : Prop :=
  xs.length = n * size ∧ ((v = .slice none 0 0 ∧ n = 0) ∨ ∃ g cap cur, v = .slice (some ⟨g, 0, none⟩) n cap ∧ w.heap[g]? = some (.cells cur e (0, 0)) ∧ n ≤ cap ∧ cap ≤ maxLen ∧ cap * size ≤ cur.size ∧ cur.toList.take (n * size) = xs)
theorem GOwn.nil (w : World) (e : TypeId) (size : Nat) : GOwn w e size (.slice none 0 0) 0 [] := ⟨by simp, .inl ⟨rfl, rfl⟩⟩
theorem GOwn.keep {w w' : World} {e : TypeId} {size : Nat} {v : Value} {n : Nat} {xs : List Value} (h : GOwn w e size v n xs) (hk : ∀ k, v.ownBlock = some k → w'.heap[k]? = w.heap[k]?) : GOwn w' e size v n xs := by
  refine ⟨h.1, ?_⟩
  rcases h.2 with h2 | ⟨g, cap, cur, rfl, h3, r⟩
  · exact .inl h2
  · exact .inr ⟨g, cap, cur, rfl, (hk g rfl).trans h3, r⟩
theorem GOwn.block {w : World} {e : TypeId} {size : Nat} {v : Value} {n : Nat} {xs : List Value} (h : GOwn w e size v n xs) {k : Nat} (hk : v.ownBlock = some k) : ∃ cur, w.heap[k]? = some (.cells cur e (0, 0)) := by
  rcases h.2 with ⟨rfl, _⟩ | ⟨g, cap, cur, rfl, h3, r⟩
  · simp [Value.ownBlock] at hk
  · obtain rfl : g = k := by simpa [Value.ownBlock] using hk
    exact ⟨cur, h3⟩
theorem GOwn.form {w : World} {e : TypeId} {size : Nat} {v : Value} {n : Nat} {xs : List Value} (h : GOwn w e size v n xs) : ∃ a cap, v = .slice a n cap ∧ n ≤ cap ∧ cap ≤ maxLen ∧ (∀ b, a = some b → b = ⟨b.block, 0, none⟩) ∧ (a = none → n = 0 ∧ cap = 0) := by
  rcases h.2 with ⟨rfl, rfl⟩ | ⟨g, cap, cur, rfl, h3, h4, h5, _⟩
  · exact ⟨none, 0, rfl, Nat.le_refl _, Nat.zero_le _, (fun b hb => by cases hb), (fun _ => ⟨rfl, rfl⟩)⟩
  · exact ⟨_, cap, rfl, h4, h5, fun b hb => by cases hb; rfl, fun hb => by cases hb⟩
theorem GOwn.cells {w : World} {e : TypeId} {size : Nat} {v : Value} {n : Nat} {xs : List Value} (h : GOwn w e size v n xs) {g : Nat} (hg : v.ownBlock = some g) : ∀ j u, xs[j]? = some u → w.cell? ((⟨g, 0, none⟩ : Addr).add j) = some u := by
  intro j u hj
  rcases h.2 with ⟨rfl, _⟩ | ⟨g', cap, cur, rfl, h3, h4, h5, h6, h7⟩
  · simp [Value.ownBlock] at hg
  · obtain rfl : g' = g := by simpa [Value.ownBlock] using hg
    have ea : (⟨g', 0, none⟩ : Addr).add j = ⟨g', j, none⟩ := by simp [Addr.add]; omega
    rw [ea]
    rw [← h7, List.getElem?_take] at hj
    split at hj
    · simp only [World.cell?, h3]
      rw [Array.getElem?_toList] at hj
      simpa using hj
    · cases hj
/-- Bytes: what the slice reads. -/
theorem gown_reads {w : World} {v : Value} {l : List UInt8} (h : GOwn w 5 1 v l.length (l.map bc)) : Reads w v l := by
  have hc := @GOwn.cells _ _ _ _ _ _ h
  rcases h.2 with ⟨rfl, h0⟩ | ⟨g, cap, cur, rfl, h3, h4, h5, h6, h7⟩
  · exact .inl ⟨List.length_eq_zero_iff.1 h0, none, 0, rfl, fun _ => rfl⟩
  · rcases Nat.eq_zero_or_pos l.length with h0 | h0
    · exact .inl ⟨List.length_eq_zero_iff.1 h0, _, cap, by rw [h0], fun q => by cases q⟩
    · refine .inr ⟨g, 0, cap, rfl, h0, h4, h5, (Array.getElem?_eq_some_iff.1 h3).1, fun j hj => ?_⟩
      have := hc (g := g) rfl j (bc l[j]) (by simp [hj])
      have ea : (⟨g, 0, none⟩ : Addr).add j = ⟨g, 0 + j, none⟩ := by simp [Addr.add]; omega
      rw [ea] at this
      exact this
/-- Where what is appended stands. -/
def GSrc (w : World) (size : Nat) (vx : Value) (m : Nat) (news : List Value) : Prop :=
  news.length = m * size ∧ ((vx = .slice none 0 0 ∧ m = 0) ∨ ∃ a c, vx = .slice (some a) m c ∧ ∀ j u, news[j]? = some u → w.cell? (a.add j) = some u)
theorem GOwn.src {w : World} {e : TypeId} {size : Nat} {v : Value} {n : Nat} {xs : List Value} (h : GOwn w e size v n xs) : GSrc w size v n xs := by
  have hc := @GOwn.cells _ _ _ _ _ _ h
  refine ⟨h.1, ?_⟩
  rcases h.2 with h2 | ⟨g, cap, cur, rfl, r⟩
  · exact .inl h2
  · exact .inr ⟨_, cap, rfl, hc rfl⟩
theorem reads_src {w : World} {v : Value} {l : List UInt8} (h : Reads w v l) : GSrc w 1 v l.length (l.map bc) := by
  refine ⟨by simp, ?_⟩
  rcases h with ⟨rfl, a, cap, rfl, hn⟩ | ⟨b, off, cap, rfl, h2, h3, h4, h5, h6⟩
  · cases a with
    | none => exact .inl ⟨by rw [hn rfl], rfl⟩
    | some a => exact .inr ⟨a, cap, rfl, fun j u hj => by simp at hj⟩
  · exact .inr ⟨_, cap, rfl, newsR h6⟩
theorem run_gapp {P : Program} {w : World} (t ty e : TypeId) (i : TypeInfo) (z : Value) (size bytes : Nat) (ht : P.underlying t = some (.slice e)) (hi : P.info? e = some i) (hz : i.zero = some z)
    (hsize : i.size = size) (hby : i.bytes = bytes) (hzs : z.cells.size = size)
    (v : Value) (n : Nat) (xs : List Value) (hown : GOwn w e size v n xs) (vx : Value) (m : Nat) (news : List Value) (hx : GSrc w size vx m news) (h1 : ∀ u ∈ news, u.oneCell' = true)
    (h63 : n + m ≤ maxLen) (hbytes : (n + m) * bytes ≤ 140737488355328) :
    ∃ v' w', (Builtin.append_ #[t, t] ty #[v, vx]).run P w = .ok v' w' ∧ GOwn w' e size v' (n + m) (xs ++ news) ∧ w.grownBy w' v.ownBlock ∧ (∀ k, v'.ownBlock = some k → v.ownBlock = some k ∨ (w.heap.size ≤ k ∧ k < w'.heap.size)) := by
  subst hsize
  subst hby
  have hsmall : n + m ≤ 9223372036854775807 := by simp only [maxLen] at h63; omega
  obtain ⟨hl, hx⟩ := hx
  have hlen : (xs ++ news).length = (n + m) * i.size := by rw [List.length_append, hown.1, hl, Nat.add_mul]
  have grown : ∀ (old : Nat), old < n + m → ∀ (row : Option Nat),
      GOwn (w.drew.alloc (.cells (xs.toArray ++ news.toArray ++ Builtin.zeroCells z.cells (grownCap w (n + m) old e - (n + m))) e)) e i.size
        (.slice (some ⟨w.heap.size, 0, none⟩) (n + m) (grownCap w (n + m) old e)) (n + m) (xs ++ news) ∧
      w.grownBy (w.drew.alloc (.cells (xs.toArray ++ news.toArray ++ Builtin.zeroCells z.cells (grownCap w (n + m) old e - (n + m))) e)) row := by
    intro old ho row
    have hge := grownCap_ge w (n + m) old e
    have hcm : grownCap w (n + m) old e ≤ maxLen := grownCap_le_maxLen w (n + m) old e h63
    refine ⟨⟨hlen, .inr ⟨w.heap.size, _, _, rfl, heap_alloc_new w.drew _, hge, hcm, ?_, ?_⟩⟩, ⟨rfl, rfl, rfl, by simp, fun k hk _ => Below.heap_alloc w.drew _ k hk⟩⟩
    · simp only [Array.size_append, List.size_toArray, size_zeroCells, hzs, hown.1, hl, ← Nat.add_mul]
      exact Nat.mul_le_mul_right _ (by omega)
    · simp only [Array.toList_append, List.append_assoc]
      rw [← List.append_assoc, ← hlen]
      exact List.take_left
  rcases hx with ⟨rfl, rfl⟩ | ⟨a, c, rfl, hnews⟩
  · have hn : news = [] := List.eq_nil_of_length_eq_zero (by simpa using hl)
    subst hn
    rw [Nat.add_zero, List.append_nil]
    refine ⟨v, w, ?_, hown, ⟨rfl, rfl, rfl, Nat.le_refl _, fun _ _ _ => rfl⟩, fun k hk => .inl hk⟩
    rcases hown.2 with ⟨rfl, rfl⟩ | ⟨g, cap, cur, rfl, hg, hnc, hcm, hcs, htake⟩
    · simp [Builtin.append_, run_underlying ht, sizeOf, typeInfo, hi, Builtin.lenOf, Builtin.firstCells]
    · have hst := run_storeCells_at P g (n * i.size) e [] 0 cur w hg (by have := Nat.mul_le_mul_right i.size hnc; simp; omega) (by simp)
      simp only [Nat.add_zero] at hst
      simp [Builtin.append_, run_underlying ht, sizeOf, typeInfo, hi, Builtin.lenOf, hnc, Builtin.firstCells, storeCells]
  · rcases hown.2 with ⟨rfl, rfl⟩ | ⟨g, cap, cur, rfl, hg, hnc, hcm, hcs, htake⟩
    · have hxn : xs = [] := List.eq_nil_of_length_eq_zero (by simpa using hown.1)
      subst hxn
      by_cases hm : m = 0
      · subst hm
        have hn : news = [] := List.eq_nil_of_length_eq_zero (by simpa using hl)
        subst hn
        refine ⟨.slice none 0 0, w, ?_, hown, ⟨rfl, rfl, rfl, Nat.le_refl _, fun _ _ _ => rfl⟩, fun k hk => by simp [Value.ownBlock] at hk⟩
        simp [Builtin.append_, run_underlying ht, sizeOf, typeInfo, hi, Builtin.lenOf, Builtin.firstCells, loadCells, loadCellsFrom]
      · have hr := run_append_nil (P := P) w t ty e i z ht hi hz a m c news hl hnews (by omega) (by omega) (by have hb := hbytes; simp only [Nat.zero_add] at hb; omega)
        have hgr := grown 0 (by omega) (Value.ownBlock (.slice none 0 0))
        simp only [Nat.zero_add, List.nil_append, Array.empty_append] at hgr ⊢
        exact ⟨_, _, hr, hgr.1, hgr.2, fun k hk => .inr (by simp [Value.ownBlock] at hk; simp; omega)⟩
    · by_cases hroom : n + m ≤ cap
      · have hfit : n * i.size + news.length ≤ cur.size := by rw [hl, ← Nat.add_mul]; exact Nat.le_trans (Nat.mul_le_mul_right _ hroom) hcs
        have hr := run_append_room (P := P) w t ty e i ht hi g n cap cur hg a m c news hl hnews h1 hroom hfit
        refine ⟨_, _, hr, ⟨hlen, .inr ⟨g, cap, _, rfl, setRow_heap w g cur _ e _ hg, hroom, hcm, ?_, ?_⟩⟩, ⟨rfl, rfl, rfl, by simp, fun k _ hk => setRow_other w g k _ (fun e => hk (by simp [Value.ownBlock, e]))⟩, fun k hk => .inl hk⟩
        · simp only [List.size_toArray, List.length_append, List.length_take, List.length_drop, Array.length_toList]
          omega
        · rw [htake, ← hlen]
          exact List.take_left
      · have holds : ∀ j u, xs[j]? = some u → w.cell? ((⟨g, 0, none⟩ : Addr).add j) = some u := hown.cells (g := g) rfl
        have hr := run_append_grow (P := P) w t ty e i z ht hi hz ⟨g, 0, none⟩ n cap xs hown.1 holds a m c news hl hnews (by omega) (by omega) (growslice_fits (by omega) hbytes)
        have hgr := grown cap (by omega) (Value.ownBlock (.slice (some ⟨g, 0, none⟩) n cap))
        exact ⟨_, _, hr, hgr.1, hgr.2, fun k hk => .inr (by simp [Value.ownBlock] at hk; simp; omega)⟩
/-- Bytes. -/
def BOwn (w : World) (v : Value) (l : List UInt8) : Prop := GOwn w 5 1 v l.length (l.map bc)
theorem BOwn.reads {w : World} {v : Value} {l : List UInt8} (h : BOwn w v l) : Reads w v l := gown_reads h
theorem run_bapp {w : World} (ty : TypeId) (v vx : Value) (L l : List UInt8) (h : BOwn w v L) (hr : Reads w vx l) (hlen : L.length + l.length ≤ 140737488355328) :
    ∃ v' w', (Builtin.append_ #[25, 25] ty #[v, vx]).run Try.prog w = .ok v' w' ∧ BOwn w' v' (L ++ l) ∧ w.grownBy w' v.ownBlock ∧ (∀ k, v'.ownBlock = some k → v.ownBlock = some k ∨ (w.heap.size ≤ k ∧ k < w'.heap.size)) := by
  obtain ⟨i0, hi, hz0, hz1, hz2⟩ := info_parts info5
  obtain ⟨v', w', h1, h2, h3, h4⟩ := run_gapp (P := Try.prog) 25 ty 5 i0 (.int .u8 0) 1 1 Try.underlying25 hi hz0 hz1 hz2 rfl v L.length (L.map bc) h vx l.length (l.map bc) (reads_src hr) one_bc (by simp [maxLen]; omega) (by omega)
  exact ⟨v', w', h1, by unfold BOwn; rw [List.length_append, List.map_append]; exact h2, h3, h4⟩
theorem BOwn.cut {w : World} {g n cap : Nat} {l : List UInt8} (h : BOwn w (.slice (some ⟨g, 0, none⟩) n cap) l) {c : Nat} (hc : c ≤ l.length) : BOwn w (.slice (some ⟨g, 0, none⟩) c c) (l.take c) := by
  rcases h.2 with ⟨h2, _⟩ | ⟨g', cap', cur, h2, h3, h4, h5, h6, h7⟩
  · cases h2
  · have hl : (l.take c).length = c := by simp; omega
    simp at h2
    obtain ⟨rfl, rfl, rfl⟩ := h2
    unfold BOwn
    rw [hl]
    refine ⟨by simp; omega, .inr ⟨g, c, cur, rfl, h3, Nat.le_refl _, by omega, by omega, ?_⟩⟩
    rw [Nat.mul_one] at h7 ⊢
    rw [List.map_take, ← h7, List.take_take]
    congr 1; omega
end Go.Proofs.Ytlpjdfgknmfmnaa
