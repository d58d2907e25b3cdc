/- R6 RB6, joined. -/
import Derived.Test.YtlpjdfgknmfmnaaTZ0
import Derived.Test.YtlpjdfgknmfmnaaTF30
import Derived.Test.YtlpjdfgknmfmnaaTF32
import Derived.Test.YtlpjdfgknmfmnaaTF36
import Derived.Test.YtlpjdfgknmfmnaaTF37
/- The reference's Frame and Next. -/
namespace Go.Proofs.Ytlpjdfgknmfmnaa
open Go.RowKit

set_option maxRecDepth 100000 in
set_option maxHeartbeats 1000000 in
theorem refFrame_any (v : Value) (l : List UInt8) (hl : l.length ≤ 65535) (w : World) (hr : Reads w v l) :
    Calls Try.prog 27 #[v] w fun e w' => ∃ v', e = .returned (.tuple #[v', .int .i64 0]) ∧ Own w' w.heap.size v' (frm l) ∧ Below w.heap.size w w' := by
  obtain ⟨a, cap, rfl, _⟩ := hr.form
  have g1 : ¬ (65535 : Int) < (l.length : Int) := by omega
  have hwr : IntKind.u32.wrap (l.length : Int) = (l.length : Int) := by simp [IntKind.wrap, IntKind.bits, IntKind.signed]; omega
  have HR : Hid (Reads w (.slice a l.length cap) l) := hr
  clear hr
  go_enter Try.func27, Try.ntmps27
  go_wp2_with fail
  refine (refFour_any l.length (by omega) _).mono ?_
  rintro e w1 ⟨v1, rfl, HO1, hb1⟩
  have HB1 : Hid (Below w.heap.size w w1) := hb1
  have hr1 : Reads w1 _ l := HR.out.below hb1
  have hsz1 := hb1.size
  obtain ⟨M, HM⟩ := hid_ex (four l.length ++ l)
  have hml : M.length = 4 + l.length := by rw [HM.out, List.length_append]; rfl
  have HML : Hid (M.length = 4 + l.length) := hml
  clear hb1 hml
  go_wp2_with (at_builtin; refine wpList_app rfl _ _ rfl w.heap.size _ _ (four l.length) l M HM.out rfl rfl HO1 hr1 (by simp [four_len]; omega) hsz1 ?_)
  intro v2 w2 HO2 hb2
  have HB2 : Hid (Below w.heap.size w w2) := HB1.out.trans hb2.out
  have HP2 : Hid (Own w2 w.heap.size v2 M) := HO2
  clear HO1 hr1 hb2 HB1 hsz1 HO2
  go_wp2_with fail
  refine (refSum_any _ M _ HP2.out.reads).mono ?_
  rintro e w3 ⟨rfl, hw⟩
  subst w3
  go_wp2_with fail
  refine (refFour_any (mor 0 M) (mor_lt _ _) _).mono ?_
  rintro e w3 ⟨v3, rfl, HO3, hb3⟩
  have HB3 : Hid (Below w.heap.size w w3) := HB2.out.trans (hb3.mono HB2.out.size)
  have HP3 : Hid (Own w3 w.heap.size v2 M) := HP2.out.below hb3
  have hsz3 := HB3.out.size
  have hr3 := HO3.reads
  clear hb3 HB2 HP2 HO3
  obtain ⟨G, HG⟩ := hid_ex (M ++ four (mor 0 M))
  go_wp2_with (at_builtin; refine wpList_app rfl _ _ rfl w.heap.size _ _ M (four (mor 0 M)) G HG.out rfl rfl HP3.out hr3 (by rw [HML.out]; simp [four_len]; omega) hsz3 ?_)
  intro v4 w4 HO4 hb4
  have HB4 : Hid (Below w.heap.size w w4) := HB3.out.trans hb4.out
  have HP4 : Hid (Own w4 w.heap.size v4 (frm l)) := by
    have : frm l = G := by rw [HG.out, HM.out]; rfl
    rw [this]; exact HO4
  clear HO4 hb4 HB3 HP3 hr3 HG HM HML
  go_wp2_with fail
  go_ret2
  exact ⟨_, rfl, HP4.out, HB4.out⟩
theorem four_vle : ∀ (t : List UInt8), t.length = 4 → four (vle t) = t
  | [a, b, c, d], _ => by
    have ha := a.toNat_lt
    have hb := b.toNat_lt
    have hc := c.toNat_lt
    have hd := d.toNat_lt
    simp only [four, vle, List.cons.injEq, and_true]
    refine ⟨?_, ?_, ?_, ?_⟩ <;> (apply UInt8.toNat_inj.1; rw [UInt8.toNat_ofNat']; omega)
theorem four_iff (t : List UInt8) (h : t.length = 4) (x : Nat) (hx : x < 4294967296) : four x = t ↔ vle t = x := by
  constructor
  · intro e; rw [← e]; exact vle_four' x hx
  · intro e; rw [← e]; exact four_vle t h
set_option maxRecDepth 100000 in
set_option maxHeartbeats 1000000 in
theorem refNext_any (v : Value) (l : List UInt8) (hll : l.length ≤ 100000) (w : World) (hr : Reads w v l) :
    Calls Try.prog 73 #[v] w fun e w' => ∃ v', e = .returned (.tuple #[v', .int .i64 ((nxF l).2.1 : Nat), .int .i64 (nxF l).2.2]) ∧ Own w' w.heap.size v' (nxF l).1 ∧ Below w.heap.size w w' := by
  obtain ⟨a, cap, rfl, _⟩ := hr.form
  by_cases h4 : (l.length : Int) < 4
  · have e : nxF l = ([], 0, 10) := by rw [nxF, if_pos (by omega)]
    rw [e]
    clear hr e
    go_enter Try.func73, Try.ntmps73
    go_wp2_with fail
    refine bodyPost_ret (results_tmp3 rfl _ _ _) rfl ?_
    exact ⟨_, rfl, Own.nil _ _, Below.refl _ _⟩
  · obtain ⟨n, HN⟩ := hid_ex (vle (l.take 4))
    have HR : Hid (Reads w (.slice a l.length cap) l) := hr
    have hn : n < 4294967296 := by rw [HN.out]; exact vle_four_lt (by simp; omega)
    have hnum := refNumber_any _ l (by omega) _ hr
    rw [← HN.out] at hnum
    have HNU : Hid _ := hnum
    clear hr hnum
    by_cases h5 : (65535 : Int) < (n : Int)
    · have e : nxF l = ([], 0, 2) := by rw [nxF, if_neg (by omega), ← HN.out, if_pos (by omega)]
      rw [e]
      clear e HN
      go_enter Try.func73, Try.ntmps73
      go_wp2_with fail
      refine Calls.mono HNU.out ?_
      rintro e w1 ⟨rfl, hb1⟩
      have HB1 : Hid (Below w.heap.size w w1) := hb1
      clear hb1
      go_wp2_with fail
      refine bodyPost_ret (results_tmp3 rfl _ _ _) rfl ?_
      exact ⟨_, rfl, Own.nil _ _, HB1.out⟩
    · by_cases h6 : (l.length : Int) < 8 + (n : Int)
      · have e : nxF l = ([], 0, 10) := by rw [nxF, if_neg (by omega), ← HN.out, if_neg (by omega), if_pos (by omega)]
        rw [e]
        clear e HN
        go_enter Try.func73, Try.ntmps73
        go_wp2_with fail
        refine Calls.mono HNU.out ?_
        rintro e w1 ⟨rfl, hb1⟩
        have HB1 : Hid (Below w.heap.size w w1) := hb1
        clear hb1
        go_wp2_with fail
        refine bodyPost_ret (results_tmp3 rfl _ _ _) rfl ?_
        exact ⟨_, rfl, Own.nil _ _, HB1.out⟩
      · obtain ⟨b, off, rfl, hb, _⟩ := HR.out.at 0 (by omega)
        have hcap := HR.out.cap (by omega)
        have j1 : (4 : Int) + (n : Int) ≤ (cap : Int) := by omega
        have j2 : (8 : Int) + (n : Int) ≤ (cap : Int) := by omega
        have j3 : (4 : Int) + (n : Int) ≤ 8 + (n : Int) := by omega
        have j4 : IntKind.i64.wrap (4 + (n : Int)) = 4 + (n : Int) := by simp [IntKind.wrap, IntKind.bits, IntKind.signed]; omega
        have j5 : IntKind.i64.wrap (8 + (n : Int)) = 8 + (n : Int) := by simp [IntKind.wrap, IntKind.bits, IntKind.signed]; omega
        have j6 : (0 : Int) ≤ 4 + (n : Int) := by omega
        have j7 : (0 : Int) ≤ 8 + (n : Int) := by omega
        have j8 : (4 + (n : Int)).toNat = 4 + n := by omega
        have j9 : (8 + (n : Int)).toNat = 8 + n := by omega
        have j10 : ¬ cap = 4 + n := by omega
        have j11 : 8 + n - (4 + n) = 4 := by omega
        obtain ⟨A, HA⟩ := hid_ex (l.take (4 + n))
        obtain ⟨S, HS⟩ := hid_ex ((l.drop (4 + n)).take 4)
        obtain ⟨D, HD⟩ := hid_ex ((l.drop 4).take n)
        have HAR : Hid (∀ w', Below w.heap.size w w' → Reads w' (.slice (some ⟨b, off, none⟩) (4 + n) cap) A) := by
          intro w' hb'; rw [HA.out]; exact (HR.out.below hb').take (by omega)
        have HSR : Hid (∀ w', Below w.heap.size w w' → Reads w' (.slice (some ⟨b, off + (4 + n), none⟩) 4 (cap - (4 + n))) S) := by
          intro w' hb'
          have h := ((HR.out.below hb').drop (c := 4 + n) (by omega) b off rfl).1 (by omega)
          rw [← List.length_drop] at h
          rw [HS.out]; exact h.take (by simp; omega)
        have HDR : Hid (∀ w', Below w.heap.size w w' → Reads w' (.slice (some ⟨b, off + 4, none⟩) n (cap - 4)) D) := by
          intro w' hb'
          have h := ((HR.out.below hb').drop (c := 4) (by omega) b off rfl).1 (by omega)
          rw [← List.length_drop] at h
          rw [HD.out]; exact h.take (by simp; omega)
        have hiff := four_iff S (by rw [HS.out]; simp; omega) (mor 0 A) (mor_lt _ _)
        by_cases hsum : vle S = mor 0 A
        · have e : nxF l = (D, n + 8, 0) := by
            rw [nxF, if_neg (by omega), ← HN.out, if_neg (by omega), if_neg (by omega), ← HS.out, ← HA.out, if_neg (by simpa using hsum), ← HD.out]
          have HE : Hid (four (mor 0 A) = S) := hiff.2 hsum
          have hDl : D.length = n := by rw [HD.out]; simp; omega
          have HDL : Hid (D.length = n) := hDl
          rw [e]
          clear e HN HS HA HD hiff hsum HR hDl
          go_enter Try.func73, Try.ntmps73
          go_wp2_with fail
          refine Calls.mono HNU.out ?_
          rintro e w1 ⟨rfl, hb1⟩
          have HB1 : Hid (Below w.heap.size w w1) := hb1
          clear hb1
          go_wp2_with fail
          refine wp_region_noPanic ?_
          refine wp_region_held_drew (S := (fun w' => Below w.heap.size w w')) (by kernel_rfl) ?_ (fun hHeld => ?_)
          · exact HB1.out.drew
          refine tk (i := 0) (v := .slice (some ⟨b, off, none⟩) l.length cap) rfl ?_ ?_
          · intro w1 hSw; go_simp
          simp only [za, zc, Act.put, zd, ze, zf]
          refine tk (i := 1) (v := .int .i64 (n : Int)) rfl ?_ ?_
          · intro w1 hSw; go_simp
          simp only [za, zb, zc, Act.put, zd, ze, zf]
          refine tk (i := 2) (v := .int .i64 (4 + (n : Int))) rfl ?_ ?_
          · intro w1 hSw; go_simp
          simp only [za, zb, zc, Act.put, zd, ze, zf]
          refine tk (i := 3) (v := .slice (some ⟨b, off, none⟩) (4 + n) cap) rfl ?_ ?_
          · intro w1 hSw; go_simp
          simp only [za, zb, zc, Act.put, zd, ze, zf]
          refine tk (i := 7) (v := .slice (some ⟨b, off, none⟩) l.length cap) rfl ?_ ?_
          · intro w1 hSw; go_simp
          simp only [za, zb, zc, Act.put, zd, ze, zf]
          refine tk (i := 8) (v := .int .i64 (n : Int)) rfl ?_ ?_
          · intro w1 hSw; go_simp
          simp only [za, zb, zc, Act.put, zd, ze, zf]
          refine tk (i := 9) (v := .int .i64 (4 + (n : Int))) rfl ?_ ?_
          · intro w1 hSw; go_simp
          simp only [za, zb, zc, Act.put, zd, ze, zf]
          refine tk (i := 10) (v := .int .i64 (n : Int)) rfl ?_ ?_
          · intro w1 hSw; go_simp
          simp only [za, zb, zc, Act.put, zd, ze, zf]
          refine tk (i := 11) (v := .int .i64 (8 + (n : Int))) rfl ?_ ?_
          · intro w1 hSw; go_simp
          simp only [za, zb, zc, Act.put, zd, ze, zf]
          refine tk (i := 12) (v := .slice (some ⟨b, off + (4 + n), none⟩) 4 (cap - (4 + n))) rfl ?_ ?_
          · intro w1 hSw; go_simp
          simp only [za, zb, zc, Act.put, zd, ze, zf]
          refine tk (i := 13) (v := .string ⟨S.toArray⟩) rfl ?_ ?_
          · (intro w1 hSw; (try dsimp only at hSw); have hcv := reads_text (HSR.out _ hSw); go_simp)
          simp only [za, zb, zc, Act.put, zd, ze, zf]
          refine wpAnyH_ready (rs := [4]) (by kernel_rfl) (by simp) ?_
          refine AllReadyH.cons (o := _) rfl (fun K hK => ?_) AllReadyH.nil
          go_simp
          refine (refSum_any _ A _ (HAR.out _ hHeld)).mono ?_
          rintro e w2 ⟨rfl, hw⟩
          subst w2
          go_wp2_with fail
          refine hK.out _ _ ?_ (fun hHeld => ?_)
          · exact hHeld
          clear hK K
          refine wpAnyH_ready (rs := [5]) (by kernel_rfl) (by simp) ?_
          refine AllReadyH.cons (o := _) rfl (fun K hK => ?_) AllReadyH.nil
          go_simp
          refine (refFour_any (mor 0 A) (mor_lt _ _) _).mono ?_
          rintro e w2 ⟨v2, rfl, HO2, hb2⟩
          go_wp2_with fail
          refine hK.out _ _ ?_ (fun hHeld => ?_)
          · exact hHeld.trans (hb2.mono hHeld.size)
          clear hK K
          refine wpAnyH_sub (S' := fun w' => (Below w.heap.size w w') ∧ (Reads w' v2 (four (mor 0 A)) ∧ w2.heap.size ≤ w'.heap.size)) (fun _ h => h.1) _ _ _ _ ?_
          have hHeld : (Below w.heap.size w w2) ∧ (Reads w2 v2 (four (mor 0 A)) ∧ w2.heap.size ≤ w2.heap.size) := ⟨hHeld, ⟨HO2.reads, Nat.le_refl _⟩⟩
          clear hb2 HO2
          refine tk (i := 6) (v := .string ⟨(four (mor 0 A)).toArray⟩) rfl ?_ ?_
          · (intro w1 hSw; (try dsimp only at hSw); have hcv := reads_text hSw.2.1; go_simp)
          simp only [za, zb, zc, Act.put, zd, ze, zf]
          rw [HE.out] at hHeld ⊢
          refine tk (i := 14) (v := .bool false) rfl ?_ ?_
          · intro w1 hSw; go_simp
          simp only [za, zb, zc, Act.put, zd, ze, zf]
          refine wpAnyH_done (by kernel_rfl) ?_ _
          refine NoPanic.normal ?_
          have HB9 : Hid (Below w.heap.size w _) := hHeld.1
          clear hHeld
          go_wp2_with fail
          refine (copy_any _ D (by rw [HDL.out]; omega) _ (HDR.out _ HB9.out)).mono ?_
          rintro e w3 ⟨v3, rfl, HO3, hb3⟩
          have HB3 : Hid (Below w.heap.size w w3) := HB9.out.trans (hb3.mono HB9.out.size)
          have HP3 : Hid (Own w3 w.heap.size v3 D) := HO3.mono HB9.out.size
          clear hb3 HO3 HB9
          go_wp2_with fail
          refine bodyPost_ret (results_tmp3 rfl _ _ _) rfl ?_
          exact ⟨v3, tup3 (by omega), HP3.out, HB3.out⟩
        · have e : nxF l = ([], 0, 20) := by
            rw [nxF, if_neg (by omega), ← HN.out, if_neg (by omega), if_neg (by omega), ← HS.out, ← HA.out, if_pos (by simpa using hsum)]
          have hne : (four (mor 0 A) == S) = false := by
            simp only [beq_eq_false_iff_ne]
            exact fun h => hsum (hiff.1 h)
          rw [e]
          clear e HN HS HA HD hiff hsum HR
          go_enter Try.func73, Try.ntmps73
          go_wp2_with fail
          refine Calls.mono HNU.out ?_
          rintro e w1 ⟨rfl, hb1⟩
          have HB1 : Hid (Below w.heap.size w w1) := hb1
          clear hb1
          go_wp2_with fail
          refine wp_region_noPanic ?_
          refine wp_region_held_drew (S := (fun w' => Below w.heap.size w w')) (by kernel_rfl) ?_ (fun hHeld => ?_)
          · exact HB1.out.drew
          refine tk (i := 0) (v := .slice (some ⟨b, off, none⟩) l.length cap) rfl ?_ ?_
          · intro w1 hSw; go_simp
          simp only [za, zc, Act.put, zd, ze, zf]
          refine tk (i := 1) (v := .int .i64 (n : Int)) rfl ?_ ?_
          · intro w1 hSw; go_simp
          simp only [za, zb, zc, Act.put, zd, ze, zf]
          refine tk (i := 2) (v := .int .i64 (4 + (n : Int))) rfl ?_ ?_
          · intro w1 hSw; go_simp
          simp only [za, zb, zc, Act.put, zd, ze, zf]
          refine tk (i := 3) (v := .slice (some ⟨b, off, none⟩) (4 + n) cap) rfl ?_ ?_
          · intro w1 hSw; go_simp
          simp only [za, zb, zc, Act.put, zd, ze, zf]
          refine tk (i := 7) (v := .slice (some ⟨b, off, none⟩) l.length cap) rfl ?_ ?_
          · intro w1 hSw; go_simp
          simp only [za, zb, zc, Act.put, zd, ze, zf]
          refine tk (i := 8) (v := .int .i64 (n : Int)) rfl ?_ ?_
          · intro w1 hSw; go_simp
          simp only [za, zb, zc, Act.put, zd, ze, zf]
          refine tk (i := 9) (v := .int .i64 (4 + (n : Int))) rfl ?_ ?_
          · intro w1 hSw; go_simp
          simp only [za, zb, zc, Act.put, zd, ze, zf]
          refine tk (i := 10) (v := .int .i64 (n : Int)) rfl ?_ ?_
          · intro w1 hSw; go_simp
          simp only [za, zb, zc, Act.put, zd, ze, zf]
          refine tk (i := 11) (v := .int .i64 (8 + (n : Int))) rfl ?_ ?_
          · intro w1 hSw; go_simp
          simp only [za, zb, zc, Act.put, zd, ze, zf]
          refine tk (i := 12) (v := .slice (some ⟨b, off + (4 + n), none⟩) 4 (cap - (4 + n))) rfl ?_ ?_
          · intro w1 hSw; go_simp
          simp only [za, zb, zc, Act.put, zd, ze, zf]
          refine tk (i := 13) (v := .string ⟨S.toArray⟩) rfl ?_ ?_
          · (intro w1 hSw; (try dsimp only at hSw); have hcv := reads_text (HSR.out _ hSw); go_simp)
          simp only [za, zb, zc, Act.put, zd, ze, zf]
          refine wpAnyH_ready (rs := [4]) (by kernel_rfl) (by simp) ?_
          refine AllReadyH.cons (o := _) rfl (fun K hK => ?_) AllReadyH.nil
          go_simp
          refine (refSum_any _ A _ (HAR.out _ hHeld)).mono ?_
          rintro e w2 ⟨rfl, hw⟩
          subst w2
          go_wp2_with fail
          refine hK.out _ _ ?_ (fun hHeld => ?_)
          · exact hHeld
          clear hK K
          refine wpAnyH_ready (rs := [5]) (by kernel_rfl) (by simp) ?_
          refine AllReadyH.cons (o := _) rfl (fun K hK => ?_) AllReadyH.nil
          go_simp
          refine (refFour_any (mor 0 A) (mor_lt _ _) _).mono ?_
          rintro e w2 ⟨v2, rfl, HO2, hb2⟩
          go_wp2_with fail
          refine hK.out _ _ ?_ (fun hHeld => ?_)
          · exact hHeld.trans (hb2.mono hHeld.size)
          clear hK K
          refine wpAnyH_sub (S' := fun w' => (Below w.heap.size w w') ∧ (Reads w' v2 (four (mor 0 A)) ∧ w2.heap.size ≤ w'.heap.size)) (fun _ h => h.1) _ _ _ _ ?_
          have hHeld : (Below w.heap.size w w2) ∧ (Reads w2 v2 (four (mor 0 A)) ∧ w2.heap.size ≤ w2.heap.size) := ⟨hHeld, ⟨HO2.reads, Nat.le_refl _⟩⟩
          clear hb2 HO2
          refine tk (i := 6) (v := .string ⟨(four (mor 0 A)).toArray⟩) rfl ?_ ?_
          · (intro w1 hSw; (try dsimp only at hSw); have hcv := reads_text hSw.2.1; go_simp)
          simp only [za, zb, zc, Act.put, zd, ze, zf]
          refine tk (i := 14) (v := .bool true) rfl ?_ ?_
          · intro w1 hSw; go_simp
          simp only [za, zb, zc, Act.put, zd, ze, zf]
          refine wpAnyH_done (by kernel_rfl) ?_ _
          refine NoPanic.normal ?_
          have HB9 : Hid (Below w.heap.size w _) := hHeld.1
          clear hHeld
          go_wp2_with fail
          refine bodyPost_ret (results_tmp3 rfl _ _ _) rfl ?_
          exact ⟨_, rfl, Own.nil _ _, HB9.out⟩
end Go.Proofs.Ytlpjdfgknmfmnaa

/- The contracts of the reference's Read and Fit. -/
namespace Go.Proofs.Ytlpjdfgknmfmnaa
open Go.RowKit

set_option maxRecDepth 100000 in
set_option maxHeartbeats 1000000 in
theorem refFit_any_B (k : Int) (w : World) : Calls Try.prog 24 #[.int .i64 k] w fun e w' => e = .returned (.tuple #[.int .i64 (fitF k).1, .int .i64 (fitF k).2.1, .int .i64 (fitF k).2.2]) ∧ w' = w := by
  unfold fitF
  by_cases h1 : k < 0
  · rw [if_pos h1]
    go_enter Try.func24, Try.ntmps24
    go_wp2_with fail
    go_ret3
    exact ⟨rfl, rfl⟩
  · rw [if_neg h1]
    by_cases h2 : 6553 < k
    · rw [if_pos h2]
      go_enter Try.func24, Try.ntmps24
      go_wp2_with fail
      go_ret3
      exact ⟨rfl, rfl⟩
    · rw [if_neg h2]
      obtain ⟨z, Hz⟩ := hid_ex (8 * max ((10 * k + 7) / 8) 1)
      have hz1 : 10 * k ≤ z ∧ z < 10 * k + 9 ∧ 8 ≤ z ∧ z % 8 = 0 ∧ (z < 10 * k + 8 ∨ z = 8) := by rw [Hz.out]; omega
      show Calls Try.prog _ _ _ fun e w' => e = .returned (.tuple #[.int .i64 (8 * max ((10 * k + 7) / 8) 1), .int .i64 6, .int .i64 0]) ∧ w' = w
      rw [← Hz.out]
      go_enter Try.func24, Try.ntmps24
      go_wp2_with fail
      go_loop [5] (fun i => ∃ n : Int, i = .int .i64 n ∧ 10 * k ≤ n ∧ n ≤ z) (fun i => (z - intOf i).toNat)
      case atStart => exact ⟨10 * k, rfl, by omega, by omega⟩
      case round =>
        obtain ⟨n, rfl, hn1, hn2⟩ := hrel
        have et : n.tmod 8 = n % 8 := Int.tmod_eq_emod_of_nonneg (by omega)
        by_cases g1 : 0 < n.tmod 8
        · have hlt : n < z := by omega
          clear et
          go_wp2_with fail
          all_goals exact ⟨⟨n + 1, rfl, by omega, by omega⟩, by simp [intOf]; omega⟩
        · by_cases g2 : n < 8
          · have hlt : n < z := by omega
            clear et
            go_wp2_with fail
            all_goals exact ⟨⟨n + 1, rfl, by omega, by omega⟩, by simp [intOf]; omega⟩
          · have he : n = z := by omega
            subst he
            clear et
            go_wp2_with fail
            go_ret3
            exact ⟨rfl, rfl⟩
end Go.Proofs.Ytlpjdfgknmfmnaa
