/- The walk of BlockShort. -/
import Derived.Test.YtmnppfklgdohmaaBK12
import Derived.Test.YtmnppfklgdohmaaBSk
namespace Go.Proofs.Ytmnppfklgdohmaa
open Go.RowKit

/-- What keys and values take, and nine a pair. -/
def mst (l : List Pr) : Nat := (l.map fun x => x.1.length + x.2.length + 9).sum
theorem mst_snoc (l : List Pr) (x : Pr) : mst (l ++ [x]) = mst l + x.1.length + x.2.length + 9 := by simp [mst]; omega
theorem mst_le : ∀ (l : List Pr), (∀ x ∈ l, okP x) → mst l ≤ l.length * 8201
  | [], _ => by simp [mst]
  | x :: l, h => by
    have ih := mst_le l (fun y hy => h y (List.mem_cons_of_mem _ hy))
    obtain ⟨h1, h2⟩ := h x List.mem_cons_self
    simp [mst] at ih ⊢
    omega
theorem wb_mst : ∀ (l : List Pr) (i : Nat) (ah : Ks), (∀ x ∈ l, okP x) → (wbF i ah l).length ≤ mst l
  | [], _, _, _ => by simp [wbF]
  | x :: l, i, ah, h => by
    have ih := wb_mst l (i + 1) x.1 (fun y hy => h y (List.mem_cons_of_mem _ hy))
    have hp := pb_le (i := i) (ah := ah) (h x List.mem_cons_self)
    simp [mst, wbF] at ih ⊢
    omega
/-- A front of a row's bytes that is a row's bytes: a front of the row. -/
theorem wb_front : ∀ (m l : List Pr) (i : Nat) (ah : Ks) (r : List UInt8), (∀ x ∈ l, okP x) → rise i ah l → (∀ x ∈ m, okP x) → rise i ah m → wbF i ah l = wbF i ah m ++ r → m = l.take m.length
  | [], _, _, _, _, _, _, _, _, _ => by simp
  | x :: m, [], i, ah, r, _, _, hm, hrm, h => by
    have h1 := nx_pb (hm x List.mem_cons_self) hrm.1 (wbF (i + 1) x.1 m ++ r)
    rw [wbF, wbF, List.append_assoc] at h
    rw [← h, nx_nil] at h1
    cases h1
  | x :: m, y :: l, i, ah, r, hl, hrl, hm, hrm, h => by
    have h1 := nx_pb (hm x List.mem_cons_self) hrm.1 (wbF (i + 1) x.1 m ++ r)
    have h2 := nx_pb (hl y List.mem_cons_self) hrl.1 (wbF (i + 1) y.1 l)
    rw [wbF, wbF, List.append_assoc] at h
    rw [← h, h2] at h1
    simp only [Option.some.injEq, Prod.mk.injEq] at h1
    obtain ⟨rfl, _⟩ := h1
    have h3 := List.append_cancel_left h
    rw [List.length_cons, List.take_succ_cons, ← wb_front m l (i + 1) y.1 r (fun z hz => hl z (List.mem_cons_of_mem _ hz)) hrl.2 (fun z hz => hm z (List.mem_cons_of_mem _ hz)) hrm.2 h3]
theorem cut_row {l m : List Pr} {c : Nat} (hl : mbF l = 0) (hc : c < (wb l).length) (h : rdB ((wb l).take c) = some m) : m.length < l.length ∧ m = l.take m.length := by
  obtain ⟨h1, h2⟩ := rdB_back h
  obtain ⟨_, l2, l3⟩ := mb_zero.1 hl
  obtain ⟨_, m2, m3⟩ := mb_zero.1 h1
  have h4 : wbF 0 [] l = wbF 0 [] m ++ (wb l).drop c := by
    have : wbF 0 [] m = (wb l).take c := h2
    rw [this, List.take_append_drop]; rfl
  have h5 := wb_front m l 0 [] _ l2 l3 m2 m3 h4
  refine ⟨?_, h5⟩
  rcases Nat.lt_or_ge m.length l.length with h6 | h6
  · exact h6
  · exfalso
    rw [List.take_of_length_le h6] at h5
    subst h5
    have := congrArg List.length h2
    rw [List.length_take] at this
    omega
theorem PReads.take {w : World} {a : Option Addr} {n cap : Nat} {l : List Pr} (h : PReads w (.slice a n cap) l) {c : Nat} (hc : c ≤ l.length) : PReads w (.slice a c cap) (l.take c) := by
  obtain ⟨a', cap', he, h1, h2, h3⟩ := h
  simp only [Value.slice.injEq] at he
  obtain ⟨rfl, rfl, rfl⟩ := he
  have hl : (l.take c).length = c := by simp; omega
  refine ⟨a, cap, by rw [hl], by omega, h2, ?_⟩
  rcases h3 with h3 | ⟨b, off, h4, h5, h6⟩
  · left; rw [h3]; simp
  · refine .inr ⟨b, off, h4, h5, fun j hj => ?_⟩
    have e : (l.take c)[j] = l[j]'(by omega) := by simp
    rw [e]
    exact h6 j (by omega)
set_option maxRecDepth 100000 in
set_option maxHeartbeats 4000000 in
theorem short_walk (v : Value) (l : List Pr) (cut : Int) (w : World) (hP : PReads w v l) :
    Calls Try.prog 7 #[v, .int .i64 cut] w fun e w' => e = .returned (.bool true) ∧ Below w.heap.size w w' := by
  have HP : Hid (PReads w v l) := hP
  obtain ⟨a, cap, rfl, hcap, hm, h3⟩ := hP
  unfold maxLen at hm
  have H3 : Hid _ := h3
  clear h3
  go_enter Try.func7, Try.ntmps7
  go_wp2_with fail
  refine (great_any _ l _ HP.out).mono ?_
  rintro e w1 ⟨g, rfl, hg, hb1⟩
  have HB1 : Hid (Below w.heap.size w w1) := hb1
  have HG : Hid (g = false → ¬ (60 < l.length ∧ l.length ≤ 4096)) := hg
  clear hb1 hg
  cases g
  · have HG2 : Hid (¬ (60 < l.length ∧ l.length ≤ 4096)) := HG.out rfl
    clear HG
    go_wp2_with fail
    refine (write_any _ l _ (HP.out.below HB1.out)).mono ?_
    rintro e w2 ⟨v2, rfl, ho2, hb2⟩
    have HB2 : Hid (Below w.heap.size w w2) := HB1.out.trans (hb2.mono HB1.out.size)
    have HO2 : Hid (Reads w2 v2 (wrB l)) := ho2.reads
    clear hb2 ho2 HB1
    by_cases h0 : mbF l = 0
    · rw [h0]
      have HM0 : Hid (mbF l = 0) := h0
      have HOk : Hid (∀ x ∈ l, okP x) := (mb_zero.1 h0).2.1
      have hl60 : l.length ≤ 60 := by have := (mb_zero.1 h0).1; have := HG2.out; omega
      obtain ⟨B, HBB⟩ := hid_ex (wrB l)
      have HBw : Hid (B = wb l) := by rw [HBB.out]; unfold Hid wrB; rw [if_pos h0]
      rw [← HBB.out] at HO2
      have hBm : B.length ≤ mst l := by rw [HBw.out]; exact wb_mst l 0 [] HOk.out
      have HBm : Hid (B.length ≤ mst l) := hBm
      have HMl : Hid (mst l ≤ l.length * 8201) := mst_le l HOk.out
      obtain ⟨a2, c2, rfl, _⟩ := HO2.out.form
      clear h0 HBB hBm HG2
      go_wp2_with fail
      go_loopw [7, 8] (fun t i wr => ∃ k : Nat, k ≤ l.length ∧ i = .int .i64 (k : Int) ∧ t = .int .i64 ((mst (l.take k) : Nat) : Int) ∧ Hid (Below w2.heap.size w2 wr)) (fun _ i _ => l.length - (intOf i).toNat)
      case atStart => exact ⟨0, by omega, rfl, by simp [mst], Below.refl _ _⟩
      case round =>
        obtain ⟨k, hk, rfl, rfl, HW⟩ := hrel
        have HWW : Hid (Below w.heap.size w wr) := HB2.out.trans (HW.out.mono HB2.out.size)
        obtain ⟨mk, HMK⟩ := hid_ex (mst (l.take k))
        have hmk : mk ≤ 60 * 8201 := by
          rw [HMK.out]
          have := mst_le (l.take k) (fun x hx => HOk.out x (List.mem_of_mem_take hx))
          rw [List.length_take] at this
          omega
        rw [← HMK.out]
        by_cases hlt : k < l.length
        · obtain ⟨bA, oA, rfl, hbA, hA⟩ := H3.out.resolve_left (fun h => by rw [h] at hlt; simp at hlt)
          obtain ⟨kx, vx, q0, q1, r0, r1⟩ := hA k hlt
          obtain ⟨X, HX⟩ := hid_ex l[k]
          rw [← HX.out] at r0 r1
          obtain ⟨hX1, hX2⟩ : okP X := by rw [HX.out]; exact HOk.out _ (List.getElem_mem hlt)
          have HMN : Hid (mst (l.take (k + 1)) = mk + X.1.length + X.2.length + 9) := by
            unfold Hid
            rw [List.take_add_one, List.getElem?_eq_getElem hlt]
            show mst (l.take k ++ [l[k]]) = _
            rw [mst_snoc, ← HMK.out, ← HX.out]
          have c0 := (HWW.out.cell (p := ⟨bA, oA + k * 2, none⟩) hbA).trans q0
          have c1 := (HWW.out.cell (p := ⟨bA, oA + k * 2 + 1, none⟩) hbA).trans q1
          obtain ⟨a1, c1', rfl, _⟩ := r0.form
          obtain ⟨a3, c3', rfl, _⟩ := r1.form
          clear hA q0 q1 r0 r1 HX
          go_wp2_with fail
          go_quiet (fail)
          have HW2 : Hid (Below w2.heap.size w2 (wr.drewN nq)) := below_drewN HW.out nq
          clear c0 c1
          go_wp2_with fail
          go_roundw
          case rel => exact ⟨k + 1, by omega, by go_num, by rw [HMN.out]; go_num, HW2⟩
          case measure => simp [intOf]; omega
        · have hkl : k = l.length := by omega
          rw [hkl, List.take_length] at HMK
          have hBm : (B.length : Int) ≤ (mk : Int) := by have := HBm.out; rw [← HMK.out] at this; omega
          by_cases hc0 : cut < 0
          · go_wp2_with fail
            refine (alive_any _).mono ?_
            rintro e w9 ⟨rfl, hb9⟩
            have HB9 : Hid (Below w.heap.size w w9) := HWW.out.trans (hb9.mono HWW.out.size)
            clear hb9
            go_wp2_with fail
            go_ret
            exact ⟨rfl, HB9.out⟩
          by_cases hc1 : (B.length : Int) ≤ cut
          · go_wp2_with fail
            refine (alive_any _).mono ?_
            rintro e w9 ⟨rfl, hb9⟩
            have HB9 : Hid (Below w.heap.size w w9) := HWW.out.trans (hb9.mono HWW.out.size)
            clear hb9
            go_wp2_with fail
            go_ret
            exact ⟨rfl, HB9.out⟩
          obtain ⟨c, rfl⟩ : ∃ c : Nat, cut = (c : Int) := ⟨cut.toNat, by omega⟩
          obtain ⟨a5, c5, hsl, hrd⟩ := sl_upto HO2.out (d := c) (by omega)
          have HR5 : Hid (Reads w2 (.slice a5 c c5) (B.take c)) := hrd
          clear hrd
          go_wp2_with fail
          clear hsl
          refine (read_any _ (B.take c) (by rw [List.length_take]; omega) _ (HR5.out.below HW.out)).mono ?_
          rintro e w6 ⟨hb6, he⟩
          have HB6 : Hid (Below w.heap.size w w6) := HWW.out.trans (hb6.mono HWW.out.size)
          clear hb6
          cases hrdc : rdB (B.take c) with
          | none =>
            rw [hrdc] at he
            dsimp only at he
            subst he
            go_wp2_with fail
            refine (alive_any _).mono ?_
            rintro e w9 ⟨rfl, hb9⟩
            have HB9 : Hid (Below w.heap.size w w9) := HB6.out.trans (hb9.mono HB6.out.size)
            clear hb9
            go_wp2_with fail
            go_ret
            exact ⟨rfl, HB9.out⟩
          | some m =>
            rw [hrdc] at he
            obtain ⟨u, xs, rfl, hmap, hO⟩ := he
            have HP6 : Hid (PReads w6 u m) := by rw [← hmap]; exact hO.reads
            obtain ⟨hml, hme⟩ := cut_row HM0.out (c := c) (by rw [← HBw.out]; omega) (by rw [← HBw.out]; exact hrdc)
            have HME : Hid (m = l.take m.length) := hme
            clear hO hmap hrdc hme
            obtain ⟨au, cu, hu, _⟩ := id HP6.out
            subst hu
            go_wp2_with fail
            refine (alive_any _).mono ?_
            rintro e w7 ⟨rfl, hb7⟩
            have HB7 : Hid (Below w.heap.size w w7) := HB6.out.trans (hb7.mono HB6.out.size)
            have HP7 : Hid (PReads w7 (.slice au m.length cu) m) := HP6.out.below hb7
            have HQ7 : Hid (PReads w7 (.slice a m.length cap) m) := by
              have := (HP.out.below HB7.out).take (c := m.length) (by omega)
              rw [← HME.out] at this
              exact this
            clear hb7
            go_wp2_with fail
            refine (as_any _ m (by omega) _ HQ7.out).mono ?_
            rintro e w8 ⟨u8, rfl, hp8, hb8⟩
            have HP8 : Hid (PReads w8 u8 m) := hp8
            have HP8' : Hid (PReads w8 (.slice au m.length cu) m) := HP7.out.below hb8
            have HB8 : Hid (Below w.heap.size w w8) := HB7.out.trans (hb8.mono HB7.out.size)
            clear hb8 hp8 HP7 HQ7 HB7
            obtain ⟨au8, cu8, hu8, _⟩ := id HP8.out
            subst hu8
            go_wp2_with fail
            refine (same_true _ _ m _ HP8'.out HP8.out).mono ?_
            rintro e w9 ⟨rfl, hb9⟩
            have HB9 : Hid (Below w.heap.size w w9) := HB8.out.trans (hb9.mono HB8.out.size)
            clear hb9
            go_wp2_with fail
            go_ret
            exact ⟨rfl, HB9.out⟩
    · have HWE : Hid (wrB l = []) := by unfold Hid wrB; rw [if_neg h0]
      rw [HWE.out] at HO2
      obtain ⟨a2, c2, rfl, _⟩ := HO2.out.form
      go_wp2_with fail
      refine (alive_any _).mono ?_
      rintro e w9 ⟨rfl, hb9⟩
      have HB9 : Hid (Below w.heap.size w w9) := HB2.out.trans (hb9.mono HB2.out.size)
      clear hb9
      go_wp2_with fail
      go_ret
      exact ⟨rfl, HB9.out⟩
  · go_wp2_with fail
    refine (alive_any _).mono ?_
    rintro e w9 ⟨rfl, hb9⟩
    have HB9 : Hid (Below w.heap.size w w9) := HB1.out.trans (hb9.mono HB1.out.size)
    clear hb9
    go_wp2_with fail
    go_ret
    exact ⟨rfl, HB9.out⟩
end Go.Proofs.Ytmnppfklgdohmaa
