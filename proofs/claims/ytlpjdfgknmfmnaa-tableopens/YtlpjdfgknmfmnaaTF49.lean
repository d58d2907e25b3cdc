/- TA3 TO8, joined. -/
import Derived.Test.YtlpjdfgknmfmnaaTF8
import Derived.Test.YtlpjdfgknmfmnaaTF15
import Derived.Test.YtlpjdfgknmfmnaaTF48
import Derived.Deep.Slices
import Derived.ProofKit
import Derived.OpenShut
import Derived.Lib.SmallJoins
/- table: entries, opened. -/
namespace Go.Proofs.Ytlpjdfgknmfmnaa
open Go.ChangeShapes Go.WideShapes Go.ChangeAt Go.RowKit Go.Joins

end Go.Proofs.Ytlpjdfgknmfmnaa

/- TableOpens' walk. -/
namespace Go.Proofs.Ytlpjdfgknmfmnaa
open Go.RowKit Go.ChangeShapes Go.WideShapes Go.ChangeAt

theorem own_far {W : World} {n g i : Nat} {v y : Value} {l : List UInt8} (h : Own W n v l) (hg : g < n) : Own (W.setCell ⟨g, i, none⟩ y) n v l := by
  obtain ⟨h1, h2⟩ := h
  refine ⟨h1, ?_⟩
  rcases h2 with h2 | ⟨g', cap, cur, hv, hgn, hw, r⟩
  · exact .inl h2
  · exact .inr ⟨g', cap, cur, hv, hgn, by rw [Go.heap_setCell_other _ _ _ _ (by simp; omega)]; exact hw, r⟩
/-- A cell of a block ahead of all that an open table is. -/
theorem Tb.far {w : World} {lo B : Nat} {l : List Et} (h : Tb w lo B l) {g i : Nat} (hg : g < lo) (y : Value) : Tb (w.setCell ⟨g, i, none⟩ y) lo B l := by
  obtain ⟨h1, h2, h3, h4, g0, fv, h5, h6, ⟨cs, t1, t2, t3⟩, ⟨B2, g2, cap, f1, f2, f3, f4, f5⟩⟩ := h
  refine ⟨h1, h2, h3, h4, g0, fv, ?_, h6, ⟨cs, ?_, t2, fun j hj => ?_⟩, ⟨B2, g2, cap, f1, f2, ?_, own_far f4 hg, f5⟩⟩
  · rw [Go.heap_setCell_other _ _ _ _ (by simp; omega)]; exact h5
  · rw [Go.heap_setCell_other _ _ _ _ (by simp; omega)]; exact t1
  · obtain ⟨kv, vv, k1, k2, k3, k4⟩ := t3 j hj
    exact ⟨kv, vv, k1, k2, own_far k3 hg, own_far k4 hg⟩
  · rw [Go.heap_setCell_other _ _ _ _ (by simp; omega)]; exact f3
/-- An open table, or none. -/
def TbO (w : World) (lo : Nat) (p : Option Addr) (b : List UInt8) : Prop := ∀ q, p = some q → ∃ B, q = ⟨B, 0, none⟩ ∧ Tb w lo B (opL b)
theorem TbO.below {w W : World} {lo : Nat} {p : Option Addr} {b : List UInt8} (h : TbO w lo p b) (hb : Below w.heap.size w W) : TbO W lo p b := fun q hq => by
  obtain ⟨B, h1, h2⟩ := h q hq
  exact ⟨B, h1, h2.below hb⟩
theorem TbO.far {w : World} {lo : Nat} {p : Option Addr} {b : List UInt8} (h : TbO w lo p b) {g i : Nat} (hg : g < lo) (y : Value) : TbO (w.setCell ⟨g, i, none⟩ y) lo p b := fun q hq => by
  obtain ⟨B, h1, h2⟩ := h q hq
  exact ⟨B, h1, h2.far hg y⟩
set_option maxRecDepth 100000 in
set_option maxHeartbeats 4000000 in
theorem opens10_walk (v : Value) (b : List UInt8) (kv : Value) (key : List UInt8) (m : Int) (hm : m ≤ 9223372036854775807) (W : World) (hR : Reads W v b) (hK : Reads W kv key) : Calls Try.prog 4 #[v, kv, .int .i64 m] W fun e W' => e = .returned (.bool true) ∧ Below W.heap.size W W' := by
  obtain ⟨ba, bc9, rfl, hbm⟩ := hR.form
  obtain ⟨ka, kc9, rfl, hkm⟩ := hK.form
  unfold maxLen at hbm hkm
  have HR : Hid (Reads W (.slice ba b.length bc9) b) := hR
  have HK : Hid (Reads W (.slice ka key.length kc9) key) := hK
  obtain ⟨BL, HBL⟩ : ∃ n, Hid (b.length = n) := ⟨_, rfl⟩
  rw [HBL.out] at HR hbm ⊢
  obtain ⟨KL, HKL⟩ : ∃ n, Hid (key.length = n) := ⟨_, rfl⟩
  rw [HKL.out] at HK hkm ⊢
  clear hR hK
  go_enter Try.func4, Try.ntmps4
  by_cases hl : 6000 < BL
  · have hl' : (6000 : Int) < (BL : Int) := by omega
    go_wp2_with fail
    refine (alive10_any W).mono ?_
    rintro e w1 ⟨rfl, hb1⟩
    have HB1 : Hid (Below W.heap.size W w1) := hb1
    clear hb1
    go_wp2_with fail
    go_ret
    exact ⟨rfl, HB1.out⟩
  have hl' : ¬ (6000 : Int) < (BL : Int) := by omega
  by_cases hk : 1000 < KL
  · have hk' : (1000 : Int) < (KL : Int) := by omega
    go_wp2_with fail
    refine (alive10_any W).mono ?_
    rintro e w1 ⟨rfl, hb1⟩
    have HB1 : Hid (Below W.heap.size W w1) := hb1
    clear hb1
    go_wp2_with fail
    go_ret
    exact ⟨rfl, HB1.out⟩
  have hk' : ¬ (1000 : Int) < (KL : Int) := by omega
  have HCp : Hid (Calls Try.prog 9 #[.slice ba BL bc9] W _) := copy10_any _ b (by rw [HBL.out]; omega) W HR.out
  go_wp2_with fail
  refine HCp.out.mono ?_
  clear HCp
  rintro e w1 ⟨vo, rfl, ho1, hb1⟩
  have HB1 : Hid (Below W.heap.size W w1) := hb1
  have HO1 : Hid (Own w1 W.heap.size vo b) := ho1
  obtain ⟨ao, co, hvo, _⟩ := ho1.form
  rw [HBL.out] at hvo
  subst hvo
  have HOp : Hid (Calls Try.prog 10 #[.slice ao BL co] w1 (OpP w1 b)) := topen_any _ b w1 HO1.out.reads (by rw [HBL.out]; omega)
  clear ho1 hb1
  go_wp2_with fail
  refine HOp.out.mono ?_
  clear HOp
  rintro e w2 ⟨hb2, hpost⟩
  obtain ⟨p, E, he, HPE, hto⟩ : ∃ (p : Option Addr) (E : Int), e = .returned (.tuple #[.pointer p, .int .i64 E]) ∧ Hid ((opOk b ∧ E = 0 ∧ p ≠ none) ∨ (¬ opOk b ∧ E = 70 ∧ p = none)) ∧ TbO w2 w1.heap.size p b := by
    rcases hpost with ⟨h1, B, h2, h3⟩ | ⟨h1, h2⟩
    · exact ⟨some ⟨B, 0, none⟩, 0, h2, .inl ⟨h1, rfl, by simp⟩, fun q hq => by cases hq; exact ⟨B, rfl, h3⟩⟩
    · exact ⟨none, 70, h2, .inr ⟨h1, rfl, rfl⟩, fun q hq => by cases hq⟩
  subst he
  have HB2 : Hid (Below W.heap.size W w2) := HB1.out.trans (hb2.mono HB1.out.size)
  have HO2 : Hid (Own w2 W.heap.size (.slice ao BL co) b) := HO1.out.below hb2
  have HT2 : Hid (TbO w2 w1.heap.size p b) := hto
  have HG : Hid (∀ g, ao = some ⟨g, 0, none⟩ → 0 < BL → g < w1.heap.size) := by
    intro g hg h0
    obtain ⟨g', c', hv, _, hlt, _⟩ := HO1.out.some (by rw [HBL.out]; exact h0)
    simp only [Value.slice.injEq] at hv
    have := hv.1.symm.trans hg
    simp at this
    omega
  clear hpost hb2 hto HO1
  go_wp2_with fail
  go_loopw [10] (fun i wr => ∃ (k : Nat) (Z : List UInt8), k ≤ BL ∧ i = .int .i64 (k : Int) ∧ Hid (Z.length = BL) ∧ Hid (Own wr W.heap.size (.slice ao BL co) Z) ∧ Hid (TbO wr w1.heap.size p b) ∧ Hid (Below W.heap.size W wr)) (fun i _ => BL - (intOf i).toNat)
  case atStart => exact ⟨0, b, by omega, rfl, HBL, HO2, HT2, HB2⟩
  case round =>
    obtain ⟨k, Z, hkb, rfl, HZ, HO, HT, HB⟩ := hrel
    by_cases hlt : k < BL
    · have hlt' : (k : Int) < (BL : Int) := by omega
      obtain ⟨gb, cp, hv, hg1, hg2, _, _⟩ := HO.out.some (by rw [HZ.out]; omega)
      simp only [Value.slice.injEq] at hv
      obtain ⟨rfl, hv2, hv3⟩ := hv
      clear hv2 hv3
      have hg3 : gb < w1.heap.size := HG.out gb rfl (by omega)
      obtain ⟨hc1, hf1⟩ := HO.out.at k (by rw [HZ.out]; omega)
      obtain ⟨y, hy⟩ := xor_255 (Z[k]'(by rw [HZ.out]; exact hlt)).toNat (UInt8.toNat_lt _)
      obtain ⟨X, HX⟩ := hid_ex (Z[k]'(by rw [HZ.out]; exact hlt)).toNat
      have hc1' : wr.cell? ⟨gb, k, none⟩ = some (.int .u8 (X : Int)) := by rw [HX.out]; exact hc1
      rw [← HX.out] at hy
      have HOn : Hid (Own (wr.setCell ⟨gb, k, none⟩ (.int .u8 (y.toNat : Int))) W.heap.size (.slice (some ⟨gb, 0, none⟩) BL co) (Z.set k y)) := (HO.out.stored k y).1
      have HZn : Hid ((Z.set k y).length = BL) := by unfold Hid; rw [List.length_set]; exact HZ.out
      have HTn : Hid (TbO (wr.setCell ⟨gb, k, none⟩ (.int .u8 (y.toNat : Int))) w1.heap.size p b) := HT.out.far hg3 _
      have HBn : Hid (Below W.heap.size W (wr.setCell ⟨gb, k, none⟩ (.int .u8 (y.toNat : Int)))) := HB.out.trans ((Below.refl _ _).setCell hg1 _)
      clear hc1 HX
      go_wp2_with fail
      go_roundw
      case rel => exact ⟨k + 1, _, by omega, by go_num, HZn, HOn, HTn, HBn⟩
      case measure => simp [intOf]; omega
    · have hlt' : ¬ (k : Int) < (BL : Int) := by omega
      have HRo : Hid (Calls Try.prog 11 #[.slice ba BL bc9] wr (RoP wr b)) := refOpen10_any _ b (by rw [HBL.out]; omega) wr (HR.out.below HB.out)
      clear HO HZ
      go_wp2_with fail
      refine HRo.out.mono ?_
      clear HRo
      rintro e w3 ⟨hb3, hpost⟩
      have HB3 : Hid (Below W.heap.size W w3) := HB.out.trans (hb3.mono HB.out.size)
      have HT3 : Hid (TbO w3 w1.heap.size p b) := HT.out.below hb3
      have hsz : W.heap.size ≤ wr.heap.size := HB.out.size
      clear hb3 HT HO2 HT2 HB2
      rcases HPE.out with ⟨hok, rfl, hpn⟩ | ⟨hno, rfl, rfl⟩
      · obtain ⟨hrf, hrl⟩ := op_rf hok
        rcases hpost with ⟨_, v3, xs, rfl, hxs, hto⟩ | ⟨hno, _⟩
        · obtain ⟨q, rfl⟩ : ∃ q, p = some q := by cases p with | none => exact absurd rfl hpn | some q => exact ⟨q, rfl⟩
          obtain ⟨B, rfl, hTb⟩ := HT3.out q rfl
          have hrd := hto.reads
          rw [hxs, hrl] at hrd
          have HTb : Hid (Tb w3 w1.heap.size B (opL b)) := hTb
          obtain ⟨L, HL⟩ := hid_ex (opL b)
          rw [← HL.out] at hrd HTb
          have HRd : Hid (TRd w3 v3 L) := hrd
          obtain ⟨a3, c3, rfl, _⟩ : ∃ a cap, v3 = .slice a L.length cap ∧ L.length ≤ cap := by obtain ⟨a, cap, h1, h2, _⟩ := hrd; exact ⟨a, cap, h1, h2⟩
          have hpp : (decide (some (⟨B, 0, none⟩ : Addr) = none)) = false := by simp
          clear hto hxs hrd hTb hrl hrf hok hpn HPE HT3
          obtain ⟨LL, HLL⟩ : ∃ n, Hid (L.length = n) := ⟨_, rfl⟩
          rw [HLL.out] at HRd ⊢
          go_wp2_with fail
          refine (alive10_any w3).mono ?_
          rintro e w4 ⟨rfl, hb4⟩
          have HB4 : Hid (Below W.heap.size W w4) := HB3.out.trans (hb4.mono HB3.out.size)
          have HTb4 : Hid (Tb w4 w1.heap.size B L) := HTb.out.below hb4
          have HRd4 : Hid (TRd w4 (.slice a3 LL c3) L) := HRd.out.below hb4
          have HS4 : Hid (Calls Try.prog 12 #[.pointer (some ⟨B, 0, none⟩), .slice a3 LL c3, .slice ka KL kc9, .int .i64 m] w4 _) := shows_any HTb4.out _ _ key m hm HRd4.out (HK.out.below HB4.out) (by rw [HKL.out]; omega)
          clear hb4 HTb HRd
          go_wp2_with fail
          refine HS4.out.mono ?_
          clear HS4
          rintro e w5 ⟨rfl, hb5⟩
          have HB5 : Hid (Below W.heap.size W w5) := HB4.out.trans (hb5.mono HB4.out.size)
          have HTb5 : Hid (Tb w5 w1.heap.size B L) := HTb4.out.below hb5
          have HRd5 : Hid (TRd w5 (.slice a3 LL c3) L) := HRd4.out.below hb5
          have HS5 : Hid (Calls Try.prog 12 #[.pointer (some ⟨B, 0, none⟩), .slice a3 LL c3, .slice ka KL kc9, .int .i64 m] w5 _) := shows_any HTb5.out _ _ key m hm HRd5.out (HK.out.below HB5.out) (by rw [HKL.out]; omega)
          clear hb5 HTb4 HRd4
          go_wp2_with fail
          refine HS5.out.mono ?_
          clear HS5
          rintro e w6 ⟨rfl, hb6⟩
          have HB6 : Hid (Below W.heap.size W w6) := HB5.out.trans (hb6.mono HB5.out.size)
          clear hb6
          go_wp2_with fail
          go_ret
          exact ⟨rfl, HB6.out⟩
        · exact absurd hrf hno
      · rcases hpost with ⟨hyes, _⟩ | ⟨_, rfl⟩
        · exact absurd (rf_op hyes) hno
        · clear HPE HT3 hno
          go_wp2_with fail
          refine (alive10_any w3).mono ?_
          rintro e w4 ⟨rfl, hb4⟩
          have HB4 : Hid (Below W.heap.size W w4) := HB3.out.trans (hb4.mono HB3.out.size)
          clear hb4
          go_wp2_with fail
          go_ret
          exact ⟨rfl, HB4.out⟩
theorem opens10_wf (v : Value) (b : List UInt8) (kv : Value) (key : List UInt8) (m : Int) (W : World) (hR : Reads W v b) (hK : Reads W kv key) (h1 : (Lit.int .i64 m).wf = true) : Calls Try.prog 4 #[v, kv, .int .i64 m] W fun e W' => e = .returned (.bool true) ∧ Below W.heap.size W W' :=
  opens10_walk v b kv key m (bounds_i64 h1).2 W hR hK
end Go.Proofs.Ytlpjdfgknmfmnaa
