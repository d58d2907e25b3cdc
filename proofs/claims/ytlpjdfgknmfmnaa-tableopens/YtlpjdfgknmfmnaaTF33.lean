/- X4 AY1 TR1 AY2, joined. -/
import Derived.Test.YtlpjdfgknmfmnaaTF3
import Derived.Test.YtlpjdfgknmfmnaaTF6
import Derived.Test.YtlpjdfgknmfmnaaTF7
import Derived.Test.YtlpjdfgknmfmnaaTF18
import Derived.Test.YtlpjdfgknmfmnaaTF31
import Derived.Test.YtlpjdfgknmfmnaaTF32
/- The contract of the reference's Read. -/
namespace Go.Proofs.Ytlpjdfgknmfmnaa
open Go.RowKit

/-- What the first m bytes of sixteen tell, the least first. -/
def rdF (zs : List Int) (m j : Nat) : Int := if 15 - j < m then zs.getD (15 - j) 0 else 0
/-- The cell of a result that is not yet told. -/
def RBox (w : World) (b : Nat) : Prop := b < w.heap.size ∧ w.cell? ⟨b, 0, none⟩ = some (.int .i64 0) ∧ w.cell? ⟨b, 1, none⟩ = some (.int .u64 0) ∧ w.frozen? ⟨b, 0, none⟩ = false ∧ w.frozen? ⟨b, 1, none⟩ = false
theorem RBox.below {w w' : World} {b : Nat} (h : RBox w b) (hb : Below w.heap.size w w') : RBox w' b := by
  have := hb.size
  obtain ⟨h0, h1, h2, h3, h4⟩ := h
  exact ⟨by omega, (hb.cell (p := ⟨b, 0, none⟩) h0).trans h1, (hb.cell (p := ⟨b, 1, none⟩) h0).trans h2, (hb.frozen (p := ⟨b, 0, none⟩) h0).trans h3, (hb.frozen (p := ⟨b, 1, none⟩) h0).trans h4⟩
theorem RBox.far {w : World} {b b' i : Nat} {u : Value} (h : RBox w b) (hne : b' ≠ b) : RBox (w.setCell ⟨b', i, none⟩ u) b := by
  obtain ⟨h0, h1, h2, h3, h4⟩ := h
  refine ⟨by simp [World.setCell]; exact h0, ?_, ?_, by rw [World.frozen?_setCell]; exact h3, by rw [World.frozen?_setCell]; exact h4⟩
  · rw [World.cell?_setCell_other (h := by intro hh; injection hh with e1 _; exact hne e1)]; exact h1
  · rw [World.cell?_setCell_other (h := by intro hh; injection hh with e1 _; exact hne e1)]; exact h2
set_option maxRecDepth 100000 in
set_option maxHeartbeats 2000000 in
theorem refRead16 (b off cap : Nat) (zs : List Int) (hl : zs.length = 16) (hz : ∀ x ∈ zs, 0 ≤ x ∧ x ≤ 255) (w : World) (hbw : b < w.heap.size)
    (hc : ∀ i, i < 16 → w.cell? ⟨b, off + i, none⟩ = some (.int .u8 (zs.getD i 0))) :
    Calls Try.prog 76 #[.slice (some ⟨b, off, none⟩) 16 cap] w fun e w' => e = .returned (.tuple #[.agg #[.int .i64 (IntKind.i64.wrap (beval (zs.take 8))), .int .u64 (beval (zs.drop 8))], .int .i64 0]) ∧ Below w.heap.size w w' := by
  have HB0 : Hid (∀ o1 o2, Below w.heap.size w ((w.alloc o1).alloc o2)) := fun o1 o2 => ((Below.refl _ _).alloc (by simp) _).alloc (by simp) _
  have HC : Hid (∀ i, i < 16 → w.cell? ⟨b, off + i, none⟩ = some (.int .u8 (zs.getD i 0))) := hc
  have HZ : Hid (∀ x ∈ zs, 0 ≤ x ∧ x ≤ 255) := hz
  have HL : Hid (zs.length = 16) := hl
  clear hc hz hl
  go_enter Try.func76, Try.ntmps76
  go_wp2_with fail
  go_loopw [5] (fun i wr => ∃ m : Nat, m ≤ 16 ∧ i = .int .i64 (m : Int) ∧ DArr wr (w.heap.size + 1) (rdF zs m) ∧ RBox wr w.heap.size ∧ Below w.heap.size w wr) (fun i _ => 16 - (intOf i).toNat)
  case atStart =>
    refine ⟨0, by omega, rfl, ?_, ⟨by simp; omega, by simp [go_sem, World.cell?_alloc_past], by simp [go_sem, World.cell?_alloc_past], by simp [go_sem], by simp [go_sem]⟩, HB0.out _ _⟩
    have h := DArr.new (w.alloc (.cells #[.int .i64 0, .int .u64 0] 39)) (fun _ => 0) 138
    have e : (w.alloc (.cells #[.int .i64 0, .int .u64 0] 39)).heap.size = w.heap.size + 1 := by simp
    rw [e] at h
    exact h.congr (fun j hj => by unfold rdF; simp)
  case round =>
    obtain ⟨m, hm, rfl, hd, hr, hbr⟩ := hrel
    by_cases hlt : m < 16
    · obtain ⟨k, hk⟩ : ∃ k : Nat, (15 - (m : Int)) = (k : Int) := ⟨15 - m, by omega⟩
      have ek : k = 15 - m := by omega
      have c1 := hd.2.1 k (by omega)
      have f1 := hd.2.2 k
      have c2 : wr.cell? ⟨b, off + m, none⟩ = some (.int .u8 (zs.getD m 0)) := (hbr.cell (p := ⟨b, off + m, none⟩) hbw).trans (HC.out m hlt)
      have e1 := HZ.out _ (getD_mem zs m (by have := HL.out; omega))
      have HS : Hid (∀ j, j < 16 → (if j = k then zs.getD m 0 else rdF zs m j) = rdF zs (m + 1) j) := by
        intro j hj
        unfold rdF
        by_cases e : j = k
        · rw [if_pos e, if_pos (by omega)]
          have : 15 - j = m := by omega
          rw [this]
        · rw [if_neg e]
          by_cases e2 : 15 - j < m
          · rw [if_pos e2, if_pos (by omega)]
          · rw [if_neg e2, if_neg (by omega)]
      obtain ⟨x, HX⟩ : ∃ x, Hid (x = zs.getD m 0) := ⟨_, rfl⟩
      rw [← HX.out] at c2 e1
      obtain ⟨x0, x1⟩ := e1
      have w5 : IntKind.i64.wrap x = x := by rw [IntKind.wrap_i64]; omega
      have k16 : (k : Int) < 16 := by omega
      have m16 : (m : Int) < 16 := by omega
      have HB : Hid (Below w.heap.size w wr) := hbr
      have HD : Hid (DArr wr (w.heap.size + 1) (rdF zs m)) := hd
      have HK : Hid (k < 16) := by unfold Hid; omega
      have hi15 : IntKind.i64.wrap (15 - (m : Int)) = (k : Int) := by rw [IntKind.wrap_i64]; omega
      have HR : Hid (RBox wr w.heap.size) := hr
      clear hd hbr ek hr
      go_wp2_with fail
      go_roundw
      case rel =>
        refine ⟨m + 1, by omega, by simp, ((HD.out.set k HK.out x).congr (fun j hj => by rw [HX.out]; exact HS.out j hj)), HR.out.far (by omega), HB.out.setCell (p := ⟨w.heap.size + 1, k, none⟩) (by show w.heap.size ≤ w.heap.size + 1; omega) _⟩
      case measure => simp [intOf]; omega
    · have hm16 : m = 16 := by omega
      subst hm16
      have HF : Hid (∀ j, j < 16 → rdF zs 16 j = zs.getD (15 - j) 0) := fun j hj => by unfold rdF; rw [if_pos (by omega)]
      obtain ⟨d0, d1, d2⟩ := hd
      have c0 := d1 0 (by omega)
      have c1 := d1 1 (by omega)
      have c2 := d1 2 (by omega)
      have c3 := d1 3 (by omega)
      have c4 := d1 4 (by omega)
      have c5 := d1 5 (by omega)
      have c6 := d1 6 (by omega)
      have c7 := d1 7 (by omega)
      have c8 := d1 8 (by omega)
      have c9 := d1 9 (by omega)
      have c10 := d1 10 (by omega)
      have c11 := d1 11 (by omega)
      have c12 := d1 12 (by omega)
      have c13 := d1 13 (by omega)
      have c14 := d1 14 (by omega)
      have c15 := d1 15 (by omega)
      have HB : Hid (Below w.heap.size w wr) := hbr
      have HR : Hid (RBox wr w.heap.size) := hr
      clear d0 d1 d2 hbr hr
      generalize rdF zs 16 = f at *
      go_wp2_with fail
      refine (from_any f zs HL.out HZ.out HF.out wr).mono ?_
      rintro e w' ⟨he, hb2⟩
      obtain ⟨A, HA⟩ : ∃ A, Hid (A = IntKind.i64.wrap (beval (zs.take 8))) := ⟨_, rfl⟩
      rw [← HA.out] at he
      subst he
      have HB2 : Hid (Below w.heap.size w w') := HB.out.trans (hb2.mono HB.out.size)
      obtain ⟨q0, q1, q2, q3, q4⟩ := HR.out.below hb2
      clear hb2
      go_wp2_with fail
      refine bodyPost_ret (v := .tuple #[.agg #[.int .i64 A, .int .u64 (beval (zs.drop 8))], .int .i64 0]) (by simp [results, Try.results76, go_sem, *]) rfl ⟨by rw [HA.out], ?_⟩
      exact (HB2.out.setCell (p := ⟨w.heap.size, 0, none⟩) (Nat.le_refl _) _).setCell (p := ⟨w.heap.size, 1, none⟩) (Nat.le_refl _) _
end Go.Proofs.Ytlpjdfgknmfmnaa

/- The contracts of the reference's Eight, Number, Right of layer 2. -/
namespace Go.Proofs.Ytlpjdfgknmfmnaa
open Go.RowKit

theorem rw01 (H L U : Int) (l1 : 0 ≤ L) (l2 : L < 18446744073709551616) (hU : IntKind.u64.wrap H = U) (u1 : 0 ≤ U) (u2 : U < 18446744073709551616) (w : World) :
    Calls Try.prog 62 #[.agg #[.int .i64 H, .int .u64 L]] w fun e w' => ∃ v, e = .returned v ∧ Own w' w.heap.size v (u8s U.toNat ++ u8s L.toNat) ∧ Below w.heap.size w w' := by
  refine (refWrite_walk H L U l1 l2 hU u1 u2 w).mono ?_
  rintro e w' ⟨v, rfl, ho, hb⟩
  refine ⟨v, rfl, ?_, hb⟩
  have hc := cells16 U.toNat L.toNat
  rw [Int.toNat_of_nonneg u1, Int.toNat_of_nonneg l1] at hc
  rw [wrZ_all, hc] at ho
  exact ho
set_option maxRecDepth 100000 in
set_option maxHeartbeats 1000000 in
theorem eight_any (x : Int) (h1 : 0 ≤ x) (h2 : x < 18446744073709551616) (w : World) :
    Calls Try.prog 26 #[.int .u64 x] w fun e w' => ∃ v, e = .returned v ∧ Reads w' v (u8s x.toNat) ∧ Below w.heap.size w w' := by
  go_enter Try.func26, Try.ntmps26
  go_wp2_with fail
  refine (rw01 0 x 0 h1 h2 (by decide) (by decide) (by decide) _).mono ?_
  rintro e w1 ⟨v1, rfl, ho1, hb1⟩
  have HB1 : Hid (Below w.heap.size w w1) := hb1
  obtain ⟨a1, c1, rfl, -⟩ := ho1.form
  obtain ⟨P, HP⟩ := hid_ex (u8s (0 : Int).toNat ++ u8s x.toNat)
  have hPl : P.length = 16 := by rw [HP.out]; simp [u8s_len]
  have HPd : Hid (P.drop 8 = u8s x.toNat) := by rw [HP.out]; exact List.drop_left (l₁ := u8s (0 : Int).toNat)
  rw [← HP.out] at ho1
  rw [← HP.out]
  obtain ⟨a2, f2, hs2, hr2⟩ := sl_from ho1.reads (c := 8) (by omega)
  rw [hPl] at hs2 hr2
  have k2 : ∀ w', (Instr.slice 25 (.slice a1 16 c1) (some (.int .i64 8)) none none).run Try.prog w' = .ok (.slice a2 8 f2) w' := hs2
  have HR2 : Hid (Reads w1 (.slice a2 8 f2) (u8s x.toNat)) := by rw [← HPd.out]; exact hr2
  rw [hPl]
  clear hb1 ho1 hs2 hr2 hPl
  go_wp2_with fail
  go_ret
  exact ⟨_, rfl, HR2.out, HB1.out⟩
theorem bv_snoc (l : List UInt8) (x : UInt8) : bv (l ++ [x]) = bv l * 256 + x.toNat := by
  induction l with
  | nil => simp [bv]
  | cons y l ih =>
    simp only [List.cons_append, bv, ih, List.length_append, List.length_singleton, Nat.pow_succ]
    rw [Nat.add_mul, Nat.mul_assoc]; omega
set_option maxRecDepth 100000 in
set_option maxHeartbeats 1000000 in
theorem number_any (v : Value) (p : List UInt8) (hp : p.length = 8) (w : World) (hR : Reads w v p) :
    Calls Try.prog 75 #[v] w fun e w' => e = .returned (.int .u64 ((bv p : Nat) : Int)) ∧ w' = w := by
  obtain ⟨a, c, rfl, -⟩ := hR.form
  have HR : Hid (Reads w (.slice a p.length c) p) := hR
  have H8 : Hid (bv p < 18446744073709551616) := bv8_lt hp
  have HT : Hid (∀ k (h : k < p.length), bv (p.take (k + 1)) = bv (p.take k) * 256 + p[k].toNat) := by
    intro k h
    rw [List.take_add_one, List.getElem?_eq_getElem h]
    exact bv_snoc _ _
  have HL : Hid (∀ k, k < p.length → bv (p.take k) * 256 + 255 < 18446744073709551616) := by
    intro k h
    have h1 := bv_lt (p.take k)
    rw [List.length_take, Nat.min_eq_left (by omega)] at h1
    have h2 : 256 ^ k ≤ 256 ^ 7 := Nat.pow_le_pow_right (by omega) (by omega)
    have e : (256 : Nat) ^ 7 = 72057594037927936 := by decide
    rw [e] at h2
    omega
  clear hR
  rw [hp]
  go_enter Try.func75, Try.ntmps75
  go_wp2_with fail
  go_loop [3, 4] (fun n i => ∃ k : Nat, k ≤ 8 ∧ i = .int .i64 (k : Int) ∧ n = .int .u64 ((bv (p.take k) : Nat) : Int)) (fun _ i => 8 - (intOf i).toNat)
  case atStart => exact ⟨0, by omega, rfl, rfl⟩
  case round =>
    obtain ⟨k, hk, rfl, rfl⟩ := hrel
    by_cases hlt : k < 8
    · obtain ⟨b1, o1, rfl, _, d1⟩ := HR.out.at k (by omega)
      unfold bc at d1
      have HT2 := HT.out k (by omega)
      have HL2 := HL.out k (by omega)
      obtain ⟨x, HX⟩ := hid_ex p[k]
      rw [← HX.out] at d1 HT2
      obtain ⟨N, HN⟩ := hid_ex (bv (p.take k))
      rw [← HN.out] at HT2 HL2
      rw [← HN.out]
      have hx := UInt8.toNat_lt x
      have hki : (k : Int) < 8 := by omega
      obtain ⟨M, HM⟩ := hid_ex (N * 256)
      have hw1 : IntKind.u64.wrap (256 * (N : Int)) = (M : Int) := by rw [IntKind.wrap_u64, HM.out]; omega
      have hw2 : IntKind.u64.wrap ((M : Int) + (x.toNat : Int)) = ((M + x.toNat : Nat) : Int) := by rw [IntKind.wrap_u64, HM.out]; omega
      have HE : Hid (bv (p.take (k + 1)) = M + x.toNat) := by unfold Hid; rw [HT2, HM.out]
      clear HT2 HL2
      go_wp2_with fail
      go_round
      case rel => exact ⟨k + 1, by omega, by go_num, by rw [HE.out]; go_num⟩
      case measure => simp [intOf]; omega
    · have hk8 : k = 8 := by omega
      subst hk8
      rw [List.take_of_length_le (by omega)]
      go_wp2_with fail
      go_ret
      exact ⟨rfl, rfl⟩
set_option maxRecDepth 100000 in
set_option maxHeartbeats 1000000 in
theorem refRightA (a : Ag) (w : World) :
    Calls Try.prog 61 #[.agg #[.int .u64 a.c, .bool a.o, .int .i64 (hi a.s), .int .u64 (lo a.s), .int .i64 a.mn, .int .i64 a.mx]] w fun e w' => e = .returned (.bool (rightB a)) ∧ Below w.heap.size w w' := by
  obtain ⟨R, HR⟩ := hid_ex (rightB a)
  rw [← HR.out]
  go_enter Try.func61, Try.ntmps61
  go_wp2_with fail
  all_goals go_ret
  all_goals refine ⟨?_, (Below.refl _ _).alloc (Nat.le_refl _) _⟩
  all_goals (rw [HR.out]; unfold rightB; simp_all)
end Go.Proofs.Ytlpjdfgknmfmnaa

/- The reference's Right of layer 10. -/
namespace Go.Proofs.Ytlpjdfgknmfmnaa
open Go.RowKit

/-- The key ahead. -/
def pkL (L : List Et) : Nat → Ks
  | 0 => []
  | j + 1 => ((L[j]?).map (·.1)).getD []
theorem leq_cmp (a b : Ks) : (Op.bytesLess a b || a == b) = decide (0 ≤ Lib.compareBytes b a) := by
  rw [Bool.eq_iff_iff, Bool.or_eq_true, decide_eq_true_iff, rless_ltK, decide_eq_true_iff, beq_iff_eq]
  rcases ltK_tri a b with h | h | h
  · exact ⟨fun _ => by have h' : Lib.compareBytes a b = -1 := h; have := cmp_swap a b; omega, fun _ => .inl h⟩
  · subst h
    exact ⟨fun _ => by rw [cmp_refl]; decide, fun _ => .inr rfl⟩
  · refine ⟨fun q => ?_, fun q => ?_⟩
    · rcases q with q | q
      · exact absurd h (ltK_asymm q)
      · subst q; exact absurd h (ltK_irrefl _)
    · have h' : Lib.compareBytes b a = -1 := h
      omega
set_option maxRecDepth 100000 in
set_option maxHeartbeats 4000000 in
theorem refRight10_any (v : Value) (L : List Et) (w : World) (h : TRd w v L) : Calls Try.prog 23 #[v] w fun e w' => e = .returned (.int .i64 (tmF L)) ∧ Below w.heap.size w w' := by
  obtain ⟨a, cap, rfl, hc, hm⟩ : ∃ a cap, v = .slice a L.length cap ∧ L.length ≤ cap ∧ cap ≤ maxLen := by obtain ⟨a, cap, h1, h2, h3, _⟩ := h; exact ⟨a, cap, h1, h2, h3⟩
  unfold maxLen at hm
  have HR : Hid (TRd w (.slice a L.length cap) L) := h
  obtain ⟨N, HN⟩ : ∃ n, Hid (L.length = n) := ⟨_, rfl⟩
  rw [HN.out] at HR hc ⊢
  obtain ⟨R, HRe⟩ := hid_ex (tmF L)
  rw [← HRe.out]
  clear h
  go_enter Try.func23, Try.ntmps23
  by_cases h1 : 4096 < N
  · have h1' : (4096 : Int) < (N : Int) := by omega
    have HE : Hid (R = 2) := by unfold Hid; rw [HRe.out]; unfold tmF; rw [HN.out, if_pos h1]
    go_wp2_with fail
    go_ret
    exact ⟨by rw [HE.out]; rfl, Below.refl _ _⟩
  · have h1' : ¬ (4096 : Int) < (N : Int) := by omega
    have HE : Hid (R = tmB [] L) := by unfold Hid; rw [HRe.out]; unfold tmF; rw [HN.out, if_neg h1]
    clear HRe
    go_wp2_with fail
    go_loopw [3] (fun i wr => ∃ (j : Nat), i = .int .i64 (j : Int) ∧ j ≤ N ∧ Hid (R = tmB (pkL L j) (L.drop j)) ∧ Hid (Below w.heap.size w wr)) (fun i _ => N - (intOf i).toNat)
    case atStart => exact ⟨0, rfl, by omega, HE, Below.refl _ _⟩
    case round =>
      obtain ⟨j, rfl, hj, HT, HB⟩ := hrel
      by_cases hlt : j < N
      · have hlt' : (j : Int) < (N : Int) := by omega
        have hjl : j < L.length := by rw [HN.out]; exact hlt
        obtain ⟨x, Hx⟩ := hid_ex L[j]
        have Hdr : Hid (L.drop j = x :: L.drop (j + 1)) := by unfold Hid; rw [Hx.out]; exact List.drop_eq_getElem_cons hjl
        have Hpk : Hid (pkL L (j + 1) = x.1) := by show ((L[j]?).map (·.1)).getD [] = x.1; rw [List.getElem?_eq_getElem hjl, Hx.out]; rfl
        obtain ⟨b, off, kv, rfl, hbw, hcs, hrk, hag⟩ := (HR.out.below HB.out).at hjl Hx.out
        obtain ⟨k, A⟩ := x
        simp only at hcs hrk hag
        obtain ⟨ka, kc, rfl, hkm⟩ := hrk.form
        unfold maxLen at hkm
        obtain ⟨KL, HKL⟩ : ∃ n, Hid (k.length = n) := ⟨_, rfl⟩
        rw [HKL.out] at hcs hrk hkm
        have HRk : Hid (Reads wr (.slice ka KL kc) k) := hrk
        have HCS : Hid _ := hcs
        have c0 := hcs 0 (by decide)
        have c1 := hcs 1 (by decide)
        have c2 := hcs 2 (by decide)
        have c3 := hcs 3 (by decide)
        have c4 := hcs 4 (by decide)
        have c5 := hcs 5 (by decide)
        have c6 := hcs 6 (by decide)
        simp only [e7, List.getElem_cons_succ, List.getElem_cons_zero, Nat.add_zero] at c0 c1 c2 c3 c4 c5 c6
        clear hcs hrk hag Hx
        by_cases g1 : KL < 1
        · obtain rfl : KL = 0 := by omega
          have HQ : Hid (R = 40) := by unfold Hid; rw [HT.out, Hdr.out, tmB, if_pos (.inl (by rw [HKL.out]; exact g1))]
          go_wp2_with fail
          go_ret
          exact ⟨by rw [HQ.out]; rfl, HB.out⟩
        · have g1' : ((KL : Int) == 0) = false := by simp; omega
          by_cases g2 : 256 < KL
          · have g2' : (256 : Int) < (KL : Int) := by omega
            have HQ : Hid (R = 40) := by unfold Hid; rw [HT.out, Hdr.out, tmB, if_pos (.inr (by rw [HKL.out]; exact g2))]
            go_wp2_with fail
            go_ret
            exact ⟨by rw [HQ.out]; rfl, HB.out⟩
          · have g2' : ¬ (256 : Int) < (KL : Int) := by omega
            have d2 : decide ((256 : Int) < (KL : Int)) = false := decide_eq_false g2'
            have HT2 : Hid (R = if A.c = 0 ∨ rightB A = false then 3 else if 0 ≤ Lib.compareBytes (pkL L j) k then 50 else tmB k (L.drop (j + 1))) := by unfold Hid; rw [HT.out, Hdr.out, tmB, if_neg (by rw [HKL.out]; omega)]
            by_cases g3 : A.c = 0
            · have HQ : Hid (R = 3) := by unfold Hid; rw [HT2.out, if_pos (.inl g3)]
              go_wp2_with fail
              go_ret
              exact ⟨by rw [HQ.out]; rfl, HB.out⟩
            · have g3' : (A.c == 0) = false := by simpa using g3
              have HRt : Hid (∀ w, Calls Try.prog 61 #[.agg #[.int .u64 A.c, .bool A.o, .int .i64 (hi A.s), .int .u64 (lo A.s), .int .i64 A.mn, .int .i64 A.mx]] w _) := fun w => refRightA A w
              obtain ⟨rb, Hrb⟩ := hid_ex (rightB A)
              rw [← Hrb.out] at HRt HT2
              go_wp2_with fail
              refine (HRt.out _).mono ?_
              clear HRt
              rintro e w3 ⟨rfl, hb3⟩
              have HB3 : Hid (Below w.heap.size w w3) := HB.out.trans (hb3.mono HB.out.size)
              have HRk3 : Hid (Reads w3 (.slice ka KL kc) k) := HRk.out.below hb3
              have c0' := (hb3.cell (p := ⟨b, off + j * 7, none⟩) hbw).trans c0
              clear hb3 c0 c1 c2 c3 c4 c5 c6
              cases rb with
              | false =>
                have HQ : Hid (R = 3) := by unfold Hid; rw [HT2.out, if_pos (.inr rfl)]
                go_wp2_with fail
                go_ret
                exact ⟨by rw [HQ.out]; rfl, HB3.out⟩
              | true =>
                have HT3 : Hid (R = if 0 ≤ Lib.compareBytes (pkL L j) k then 50 else tmB k (L.drop (j + 1))) := by unfold Hid; rw [HT2.out, if_neg (by simp [g3])]
                by_cases hj0 : j = 0
                · subst hj0
                  have HQ : Hid (R = tmB k (L.drop (0 + 1))) := by
                    unfold Hid
                    rw [HT3.out, if_neg]
                    have hlk : ltK [] k := lt_nil k (by rw [HKL.out]; omega)
                    have : Lib.compareBytes [] k = -1 := hlk
                    show ¬ (0 : Int) ≤ Lib.compareBytes [] k
                    omega
                  go_wp2_with fail
                  go_quiet (fail)
                  go_wp2_with fail
                  go_roundw
                  case rel => exact ⟨0 + 1, by go_num, by omega, by rw [Hpk.out]; exact HQ, below_drewN HB3.out _⟩
                  case measure => simp [intOf]; omega
                · obtain ⟨j', rfl⟩ : ∃ j', j = j' + 1 := ⟨j - 1, by omega⟩
                  have hj' : j' < L.length := by omega
                  obtain ⟨y, Hy⟩ := hid_ex L[j']
                  have Hpk2 : Hid (pkL L (j' + 1) = y.1) := by show ((L[j']?).map (·.1)).getD [] = y.1; rw [List.getElem?_eq_getElem hj', Hy.out]; rfl
                  obtain ⟨b2, off2, kv2, he2, hbw2, hcs2, hrk2, _⟩ := (HR.out.below HB3.out).at hj' Hy.out
                  cases he2
                  have d0 := hcs2 0 (by decide)
                  simp only [e7, List.getElem_cons_zero, Nat.add_zero] at d0
                  obtain ⟨k2, A2⟩ := y
                  simp only at hrk2 d0 Hpk2
                  obtain ⟨ka2, kc2, rfl, hkm2⟩ := hrk2.form
                  obtain ⟨KL2, HKL2⟩ : ∃ n, Hid (k2.length = n) := ⟨_, rfl⟩
                  rw [HKL2.out] at d0 hrk2 hkm2
                  have hq1 : ∀ n, (convert 25 9 (.slice ka KL kc)).run Try.prog (w3.drewN n) = .ok (.string ⟨k.toArray⟩) (w3.drewN n) := fun n => reads_text (HRk3.out.below (below_drewN (Below.refl _ _) n))
                  have hq2 : ∀ n, (convert 25 9 (.slice ka2 KL2 kc2)).run Try.prog (w3.drewN n) = .ok (.string ⟨k2.toArray⟩) (w3.drewN n) := fun n => reads_text (hrk2.below (below_drewN (Below.refl _ _) n))
                  have hle : (Op.bytesLess k k2 || k == k2) = decide (0 ≤ Lib.compareBytes k2 k) := leq_cmp k k2
                  rw [Hpk2.out] at HT3
                  obtain ⟨C, HC⟩ := hid_ex (Lib.compareBytes k2 k)
                  rw [← HC.out] at HT3 hle
                  have hpos : (0 : Int) < ((j' + 1 : Nat) : Int) := by omega
                  have hpos' : (0 : Int) < (j' : Int) + 1 := by omega
                  have hsb : ((j' + 1 : Nat) : Int) - 1 = (j' : Int) := by omega
                  clear hrk2 hcs2
                  by_cases g4 : 0 ≤ C
                  · have hle' : (Op.bytesLess k k2 || k == k2) = true := by rw [hle]; exact decide_eq_true g4
                    have HQ : Hid (R = 50) := by unfold Hid; rw [HT3.out, if_pos g4]
                    clear hle
                    go_wp2_with fail
                    go_quiet (fail)
                    go_wp2_with fail
                    go_ret
                    exact ⟨by rw [HQ.out]; rfl, below_drewN HB3.out _⟩
                  · have hle' : (Op.bytesLess k k2 || k == k2) = false := by rw [hle]; exact decide_eq_false g4
                    have HQ : Hid (R = tmB k (L.drop (j' + 1 + 1))) := by unfold Hid; rw [HT3.out, if_neg g4]
                    clear hle
                    go_wp2_with fail
                    go_quiet (fail)
                    go_wp2_with fail
                    go_roundw
                    case rel => exact ⟨j' + 1 + 1, by go_num, by omega, by rw [Hpk.out]; exact HQ, below_drewN HB3.out _⟩
                    case measure => simp [intOf]; omega
      · have hlt' : ¬ (j : Int) < (N : Int) := by omega
        have HQ : Hid (R = 0) := by unfold Hid; rw [HT.out, List.drop_eq_nil_of_le (by rw [HN.out]; omega)]; rfl
        go_wp2_with fail
        go_ret
        exact ⟨by rw [HQ.out]; rfl, HB.out⟩
end Go.Proofs.Ytlpjdfgknmfmnaa

/- The contract of the reference's Write of layer 2. -/
namespace Go.Proofs.Ytlpjdfgknmfmnaa
open Go.RowKit

set_option maxRecDepth 100000 in
set_option maxHeartbeats 2000000 in
theorem refAW (a : Ag) (hA : AgOk a) (w : World) :
    Calls Try.prog 65 #[.agg #[.int .u64 a.c, .bool a.o, .int .i64 (hi a.s), .int .u64 (lo a.s), .int .i64 a.mn, .int .i64 a.mx]] w fun e w' => ∃ v, e = .returned (.tuple #[v, .int .i64 (wrE a)]) ∧ Own w' w.heap.size v (wrU a) ∧ Below w.heap.size w w' := by
  obtain ⟨E, HE⟩ := hid_ex (wrE a)
  obtain ⟨V, HV⟩ := hid_ex (wrU a)
  rw [← HE.out, ← HV.out]
  have hc1 := hA.c1
  have hc2 := hA.c2
  have hlo : 0 ≤ lo a.s ∧ lo a.s < 18446744073709551616 := by unfold lo; omega
  obtain ⟨l1, l2⟩ := hlo
  obtain ⟨m1, hm1⟩ : ∃ m1, m1 = a.mn % 18446744073709551616 := ⟨_, rfl⟩
  obtain ⟨m2, hm2⟩ : ∃ m2, m2 = a.mx % 18446744073709551616 := ⟨_, rfl⟩
  have e1 : IntKind.u64.wrap a.mn = m1 := by rw [IntKind.wrap_u64, hm1]
  have e2 : IntKind.u64.wrap a.mx = m2 := by rw [IntKind.wrap_u64, hm2]
  have b1 : 0 ≤ m1 ∧ m1 < 18446744073709551616 := by omega
  have b2 : 0 ≤ m2 ∧ m2 < 18446744073709551616 := by omega
  obtain ⟨U, hU⟩ : ∃ U, U = hi a.s % 18446744073709551616 := ⟨_, rfl⟩
  have HU : Hid (IntKind.u64.wrap (hi a.s) = U ∧ 0 ≤ U ∧ U < 18446744073709551616) := ⟨by rw [IntKind.wrap_u64, hU], by omega, by omega⟩
  have HG : Hid (aggU a = [if a.o = true then 1 else 0] ++ u8s a.c.toNat ++ (u8s U.toNat ++ u8s (lo a.s).toNat) ++ u8s m1.toNat ++ u8s m2.toNat) := by
    unfold Hid aggU
    rw [hU, hm1, hm2]
    simp
  clear hm1 hm2 hU hA
  obtain ⟨w1, HW1⟩ := hid_ex (w.alloc (.cells #[.int .u64 a.c, .bool a.o, .int .i64 (hi a.s), .int .u64 (lo a.s), .int .i64 a.mn, .int .i64 a.mx] 41))
  have HB1 : Hid (Below w.heap.size w w1) := by rw [HW1.out]; exact (Below.refl _ _).alloc (Nat.le_refl _) _
  have HA1 : Hid (w1.heap[w.heap.size]? = some (.cells #[.int .u64 a.c, .bool a.o, .int .i64 (hi a.s), .int .u64 (lo a.s), .int .i64 a.mn, .int .i64 a.mx] 41)) := by rw [HW1.out]; exact World.alloc_heap_new _ _
  have HRA : Hid _ := refRightA a
  go_enter Try.func65, Try.ntmps65
  go_wp2_with fail
  rw [← HW1.out]
  clear HW1
  refine (HRA.out _).mono ?_
  rintro e w2 ⟨rfl, hb2⟩
  have HB2 : Hid (Below w.heap.size w w2) := HB1.out.trans (hb2.mono HB1.out.size)
  have HA2 : Hid (w2.heap[w.heap.size]? = some (.cells #[.int .u64 a.c, .bool a.o, .int .i64 (hi a.s), .int .u64 (lo a.s), .int .i64 a.mn, .int .i64 a.mx] 41)) := (hb2.block _ (Array.getElem?_eq_some_iff.1 HA1.out).1).trans HA1.out
  clear hb2 HB1 HA1 HRA
  cases hra : rightB a with
  | false =>
    have f1 : E = 3 := by rw [HE.out]; unfold wrE; rw [hra]; rfl
    have f2 : V = [] := by rw [HV.out]; unfold wrU; rw [hra]; rfl
    subst f1 f2
    clear hra
    go_wp2_with fail
    go_ret2
    exact ⟨_, rfl, Own.nil _ _, HB2.out⟩
  | true =>
    have f1 : E = 0 := by rw [HE.out]; unfold wrE; rw [if_pos hra]
    have HV2 : Hid (V = aggU a) := by rw [HV.out]; unfold Hid wrU; rw [if_pos hra]
    subst f1
    clear hra
    have z1 := c_rw HA2.out 1 (by simp)
    simp only [List.getElem_toArray, List.getElem_cons_succ, List.getElem_cons_zero] at z1
    obtain ⟨y, HY⟩ : ∃ y : UInt8, Hid (y = if a.o = true then 1 else 0) := ⟨_, rfl⟩
    have hsz2 := HB2.out.size
    have HG2 : Hid (aggU a = [y] ++ u8s a.c.toNat ++ (u8s U.toNat ++ u8s (lo a.s).toNat) ++ u8s m1.toNat ++ u8s m2.toNat) := by rw [HY.out]; exact HG
    have hbx : w.heap.size < w2.heap.size := (Array.getElem?_eq_some_iff.1 HA2.out).1
    cases ho : a.o with
    | false =>
      rw [ho] at z1 HY HA2
      go_wp2_with (at_builtin; refine wpList_app1 rfl _ _ rfl w2.heap.size _ [] y [y] rfl (by rw [HY.out]; rfl) rfl rfl (Own.nil _ _) (by simp) (Nat.le_refl _) ?_)
      intro v3 w3 ho3 HB3
      have HO3 : Hid (Own w3 w2.heap.size v3 [y]) := ho3
      have HW3 : Hid (Below w2.heap.size w2 w3) := HB3.out
      clear ho3 HB3 z1
      have z0 := c_rw ((HW3.out.block _ (by omega)).trans HA2.out) 0 (by simp)
      simp only [List.getElem_toArray, List.getElem_cons_zero] at z0
      go_wp2_with fail
      refine (eight_any a.c hc1 hc2 _).mono ?_
      rintro e w4 ⟨v4, rfl, ho4, hb4⟩
      have HW4 : Hid (Below w2.heap.size w2 w4) := HW3.out.trans (hb4.mono HW3.out.size)
      have HO4 : Hid (Own w4 w2.heap.size v3 ([y])) := HO3.out.below hb4
      have HR4 : Hid (Reads w4 v4 (u8s a.c.toNat)) := ho4
      have hz4 := HW4.out.size
      clear ho4 hb4 HW3 HO3 z0
      go_wp2_with (at_builtin; refine wpList_app rfl _ _ rfl w2.heap.size _ _ ([y]) (u8s a.c.toNat) _ rfl rfl rfl HO4.out HR4.out (by simp [u8s_len]) hz4 ?_)
      intro v5 w5 ho5 HB5
      have HO5 : Hid (Own w5 w2.heap.size v5 ([y] ++ u8s a.c.toNat)) := by
        have h := ho5
        (try simp only [List.append_assoc] at h)
        (try simp only [List.append_assoc])
        exact h
      have HW5 : Hid (Below w2.heap.size w2 w5) := HW4.out.trans HB5.out
      clear ho5 HB5 HW4 HO4 HR4 hz4
      have z2 := c_rw ((HW5.out.block _ (by omega)).trans HA2.out) 2 (by simp)
      have z3 := c_rw ((HW5.out.block _ (by omega)).trans HA2.out) 3 (by simp)
      simp only [List.getElem_toArray, List.getElem_cons_succ, List.getElem_cons_zero] at z2 z3
      go_wp2_with fail
      refine (rw01 (hi a.s) (lo a.s) U l1 l2 HU.out.1 HU.out.2.1 HU.out.2.2 _).mono ?_
      rintro e w6 ⟨v6, rfl, ho6, hb6⟩
      have HW6 : Hid (Below w2.heap.size w2 w6) := HW5.out.trans (hb6.mono HW5.out.size)
      have HO6 : Hid (Own w6 w2.heap.size v5 ([y] ++ u8s a.c.toNat)) := HO5.out.below hb6
      have HR6 : Hid (Reads w6 v6 ((u8s U.toNat ++ u8s (lo a.s).toNat))) := ho6.reads
      have hz6 := HW6.out.size
      clear ho6 hb6 HW5 HO5 z2 z3
      go_wp2_with (at_builtin; refine wpList_app rfl _ _ rfl w2.heap.size _ _ ([y] ++ u8s a.c.toNat) ((u8s U.toNat ++ u8s (lo a.s).toNat)) _ rfl rfl rfl HO6.out HR6.out (by simp [u8s_len]) hz6 ?_)
      intro v7 w7 ho7 HB7
      have HO7 : Hid (Own w7 w2.heap.size v7 ([y] ++ u8s a.c.toNat ++ (u8s U.toNat ++ u8s (lo a.s).toNat))) := by
        have h := ho7
        (try simp only [List.append_assoc] at h)
        (try simp only [List.append_assoc])
        exact h
      have HW7 : Hid (Below w2.heap.size w2 w7) := HW6.out.trans HB7.out
      clear ho7 HB7 HW6 HO6 HR6 hz6
      have z4 := c_rw ((HW7.out.block _ (by omega)).trans HA2.out) 4 (by simp)
      simp only [List.getElem_toArray, List.getElem_cons_succ, List.getElem_cons_zero] at z4
      go_wp2_with fail
      refine (eight_any m1 b1.1 b1.2 _).mono ?_
      rintro e w8 ⟨v8, rfl, ho8, hb8⟩
      have HW8 : Hid (Below w2.heap.size w2 w8) := HW7.out.trans (hb8.mono HW7.out.size)
      have HO8 : Hid (Own w8 w2.heap.size v7 ([y] ++ u8s a.c.toNat ++ (u8s U.toNat ++ u8s (lo a.s).toNat))) := HO7.out.below hb8
      have HR8 : Hid (Reads w8 v8 (u8s m1.toNat)) := ho8
      have hz8 := HW8.out.size
      clear ho8 hb8 HW7 HO7 z4
      go_wp2_with (at_builtin; refine wpList_app rfl _ _ rfl w2.heap.size _ _ ([y] ++ u8s a.c.toNat ++ (u8s U.toNat ++ u8s (lo a.s).toNat)) (u8s m1.toNat) _ rfl rfl rfl HO8.out HR8.out (by simp [u8s_len]) hz8 ?_)
      intro v9 w9 ho9 HB9
      have HO9 : Hid (Own w9 w2.heap.size v9 ([y] ++ u8s a.c.toNat ++ (u8s U.toNat ++ u8s (lo a.s).toNat) ++ u8s m1.toNat)) := by
        have h := ho9
        (try simp only [List.append_assoc] at h)
        (try simp only [List.append_assoc])
        exact h
      have HW9 : Hid (Below w2.heap.size w2 w9) := HW8.out.trans HB9.out
      clear ho9 HB9 HW8 HO8 HR8 hz8
      have z5 := c_rw ((HW9.out.block _ (by omega)).trans HA2.out) 5 (by simp)
      simp only [List.getElem_toArray, List.getElem_cons_succ, List.getElem_cons_zero] at z5
      go_wp2_with fail
      refine (eight_any m2 b2.1 b2.2 _).mono ?_
      rintro e w10 ⟨v10, rfl, ho10, hb10⟩
      have HW10 : Hid (Below w2.heap.size w2 w10) := HW9.out.trans (hb10.mono HW9.out.size)
      have HO10 : Hid (Own w10 w2.heap.size v9 ([y] ++ u8s a.c.toNat ++ (u8s U.toNat ++ u8s (lo a.s).toNat) ++ u8s m1.toNat)) := HO9.out.below hb10
      have HR10 : Hid (Reads w10 v10 (u8s m2.toNat)) := ho10
      have hz10 := HW10.out.size
      clear ho10 hb10 HW9 HO9 z5
      go_wp2_with (at_builtin; refine wpList_app rfl _ _ rfl w2.heap.size _ _ ([y] ++ u8s a.c.toNat ++ (u8s U.toNat ++ u8s (lo a.s).toNat) ++ u8s m1.toNat) (u8s m2.toNat) _ rfl rfl rfl HO10.out HR10.out (by simp [u8s_len]) hz10 ?_)
      intro v11 w11 ho11 HB11
      have HO11 : Hid (Own w11 w2.heap.size v11 ([y] ++ u8s a.c.toNat ++ (u8s U.toNat ++ u8s (lo a.s).toNat) ++ u8s m1.toNat ++ u8s m2.toNat)) := by
        have h := ho11
        (try simp only [List.append_assoc] at h)
        (try simp only [List.append_assoc])
        exact h
      have HW11 : Hid (Below w2.heap.size w2 w11) := HW10.out.trans HB11.out
      clear ho11 HB11 HW10 HO10 HR10 hz10
      go_wp2_with fail
      go_ret2
      refine ⟨_, rfl, ?_, HB2.out.trans (HW11.out.mono hsz2)⟩
      rw [HV2.out, HG2.out]
      exact HO11.out.mono hsz2
    | true =>
      rw [ho] at z1 HY HA2
      go_wp2_with (at_builtin; refine wpList_app1 rfl _ _ rfl w2.heap.size _ [] y [y] rfl (by rw [HY.out]; rfl) rfl rfl (Own.nil _ _) (by simp) (Nat.le_refl _) ?_)
      intro v3 w3 ho3 HB3
      have HO3 : Hid (Own w3 w2.heap.size v3 [y]) := ho3
      have HW3 : Hid (Below w2.heap.size w2 w3) := HB3.out
      clear ho3 HB3 z1
      have z0 := c_rw ((HW3.out.block _ (by omega)).trans HA2.out) 0 (by simp)
      simp only [List.getElem_toArray, List.getElem_cons_zero] at z0
      go_wp2_with fail
      refine (eight_any a.c hc1 hc2 _).mono ?_
      rintro e w4 ⟨v4, rfl, ho4, hb4⟩
      have HW4 : Hid (Below w2.heap.size w2 w4) := HW3.out.trans (hb4.mono HW3.out.size)
      have HO4 : Hid (Own w4 w2.heap.size v3 ([y])) := HO3.out.below hb4
      have HR4 : Hid (Reads w4 v4 (u8s a.c.toNat)) := ho4
      have hz4 := HW4.out.size
      clear ho4 hb4 HW3 HO3 z0
      go_wp2_with (at_builtin; refine wpList_app rfl _ _ rfl w2.heap.size _ _ ([y]) (u8s a.c.toNat) _ rfl rfl rfl HO4.out HR4.out (by simp [u8s_len]) hz4 ?_)
      intro v5 w5 ho5 HB5
      have HO5 : Hid (Own w5 w2.heap.size v5 ([y] ++ u8s a.c.toNat)) := by
        have h := ho5
        (try simp only [List.append_assoc] at h)
        (try simp only [List.append_assoc])
        exact h
      have HW5 : Hid (Below w2.heap.size w2 w5) := HW4.out.trans HB5.out
      clear ho5 HB5 HW4 HO4 HR4 hz4
      have z2 := c_rw ((HW5.out.block _ (by omega)).trans HA2.out) 2 (by simp)
      have z3 := c_rw ((HW5.out.block _ (by omega)).trans HA2.out) 3 (by simp)
      simp only [List.getElem_toArray, List.getElem_cons_succ, List.getElem_cons_zero] at z2 z3
      go_wp2_with fail
      refine (rw01 (hi a.s) (lo a.s) U l1 l2 HU.out.1 HU.out.2.1 HU.out.2.2 _).mono ?_
      rintro e w6 ⟨v6, rfl, ho6, hb6⟩
      have HW6 : Hid (Below w2.heap.size w2 w6) := HW5.out.trans (hb6.mono HW5.out.size)
      have HO6 : Hid (Own w6 w2.heap.size v5 ([y] ++ u8s a.c.toNat)) := HO5.out.below hb6
      have HR6 : Hid (Reads w6 v6 ((u8s U.toNat ++ u8s (lo a.s).toNat))) := ho6.reads
      have hz6 := HW6.out.size
      clear ho6 hb6 HW5 HO5 z2 z3
      go_wp2_with (at_builtin; refine wpList_app rfl _ _ rfl w2.heap.size _ _ ([y] ++ u8s a.c.toNat) ((u8s U.toNat ++ u8s (lo a.s).toNat)) _ rfl rfl rfl HO6.out HR6.out (by simp [u8s_len]) hz6 ?_)
      intro v7 w7 ho7 HB7
      have HO7 : Hid (Own w7 w2.heap.size v7 ([y] ++ u8s a.c.toNat ++ (u8s U.toNat ++ u8s (lo a.s).toNat))) := by
        have h := ho7
        (try simp only [List.append_assoc] at h)
        (try simp only [List.append_assoc])
        exact h
      have HW7 : Hid (Below w2.heap.size w2 w7) := HW6.out.trans HB7.out
      clear ho7 HB7 HW6 HO6 HR6 hz6
      have z4 := c_rw ((HW7.out.block _ (by omega)).trans HA2.out) 4 (by simp)
      simp only [List.getElem_toArray, List.getElem_cons_succ, List.getElem_cons_zero] at z4
      go_wp2_with fail
      refine (eight_any m1 b1.1 b1.2 _).mono ?_
      rintro e w8 ⟨v8, rfl, ho8, hb8⟩
      have HW8 : Hid (Below w2.heap.size w2 w8) := HW7.out.trans (hb8.mono HW7.out.size)
      have HO8 : Hid (Own w8 w2.heap.size v7 ([y] ++ u8s a.c.toNat ++ (u8s U.toNat ++ u8s (lo a.s).toNat))) := HO7.out.below hb8
      have HR8 : Hid (Reads w8 v8 (u8s m1.toNat)) := ho8
      have hz8 := HW8.out.size
      clear ho8 hb8 HW7 HO7 z4
      go_wp2_with (at_builtin; refine wpList_app rfl _ _ rfl w2.heap.size _ _ ([y] ++ u8s a.c.toNat ++ (u8s U.toNat ++ u8s (lo a.s).toNat)) (u8s m1.toNat) _ rfl rfl rfl HO8.out HR8.out (by simp [u8s_len]) hz8 ?_)
      intro v9 w9 ho9 HB9
      have HO9 : Hid (Own w9 w2.heap.size v9 ([y] ++ u8s a.c.toNat ++ (u8s U.toNat ++ u8s (lo a.s).toNat) ++ u8s m1.toNat)) := by
        have h := ho9
        (try simp only [List.append_assoc] at h)
        (try simp only [List.append_assoc])
        exact h
      have HW9 : Hid (Below w2.heap.size w2 w9) := HW8.out.trans HB9.out
      clear ho9 HB9 HW8 HO8 HR8 hz8
      have z5 := c_rw ((HW9.out.block _ (by omega)).trans HA2.out) 5 (by simp)
      simp only [List.getElem_toArray, List.getElem_cons_succ, List.getElem_cons_zero] at z5
      go_wp2_with fail
      refine (eight_any m2 b2.1 b2.2 _).mono ?_
      rintro e w10 ⟨v10, rfl, ho10, hb10⟩
      have HW10 : Hid (Below w2.heap.size w2 w10) := HW9.out.trans (hb10.mono HW9.out.size)
      have HO10 : Hid (Own w10 w2.heap.size v9 ([y] ++ u8s a.c.toNat ++ (u8s U.toNat ++ u8s (lo a.s).toNat) ++ u8s m1.toNat)) := HO9.out.below hb10
      have HR10 : Hid (Reads w10 v10 (u8s m2.toNat)) := ho10
      have hz10 := HW10.out.size
      clear ho10 hb10 HW9 HO9 z5
      go_wp2_with (at_builtin; refine wpList_app rfl _ _ rfl w2.heap.size _ _ ([y] ++ u8s a.c.toNat ++ (u8s U.toNat ++ u8s (lo a.s).toNat) ++ u8s m1.toNat) (u8s m2.toNat) _ rfl rfl rfl HO10.out HR10.out (by simp [u8s_len]) hz10 ?_)
      intro v11 w11 ho11 HB11
      have HO11 : Hid (Own w11 w2.heap.size v11 ([y] ++ u8s a.c.toNat ++ (u8s U.toNat ++ u8s (lo a.s).toNat) ++ u8s m1.toNat ++ u8s m2.toNat)) := by
        have h := ho11
        (try simp only [List.append_assoc] at h)
        (try simp only [List.append_assoc])
        exact h
      have HW11 : Hid (Below w2.heap.size w2 w11) := HW10.out.trans HB11.out
      clear ho11 HB11 HW10 HO10 HR10 hz10
      go_wp2_with fail
      go_ret2
      refine ⟨_, rfl, ?_, HB2.out.trans (HW11.out.mono hsz2)⟩
      rw [HV2.out, HG2.out]
      exact HO11.out.mono hsz2
end Go.Proofs.Ytlpjdfgknmfmnaa
