/- TR3, joined. -/
import Derived.Test.YtlpjdfgknmfmnaaTZ0
import Derived.Test.YtlpjdfgknmfmnaaTF37
import Derived.Test.YtlpjdfgknmfmnaaTF38
/- The reference's Write of layer 10. -/
namespace Go.Proofs.Ytlpjdfgknmfmnaa
open Go.RowKit

theorem eightC_any (x : Int) (h1 : 0 ≤ x) (h2 : x < 18446744073709551616) (w : World) :
    Calls Try.prog 26 #[.int .u64 x] w fun e w' => ∃ g c1 P, e = .returned (.slice (some ⟨g, 8, none⟩) 8 (c1 - 8)) ∧ P.length = 16 ∧ P.drop 8 = u8s x.toNat ∧ Own w' w.heap.size (.slice (some ⟨g, 0, none⟩) 16 c1) P ∧ Below w.heap.size w w' := by
  go_enter Try.func26, Try.ntmps26
  go_wp2_with fail
  refine (rw01 0 x 0 h1 h2 (by decide) (by decide) (by decide) _).mono ?_
  rintro e w1 ⟨v1, rfl, ho1, hb1⟩
  have HB1 : Hid (Below w.heap.size w w1) := hb1
  have hpos : 0 < (u8s (0 : Int).toNat ++ u8s x.toNat).length := by simp [u8s_len]
  obtain ⟨g, c1, rfl, hg1, hg2, hg3, _⟩ := ho1.some hpos
  have hPl : (u8s (0 : Int).toNat ++ u8s x.toNat).length = 16 := by simp [u8s_len]
  have HPd : Hid ((u8s (0 : Int).toNat ++ u8s x.toNat).drop 8 = u8s x.toNat) := List.drop_left (l₁ := u8s (0 : Int).toNat)
  obtain ⟨P, HP⟩ := hid_ex (u8s (0 : Int).toNat ++ u8s x.toNat)
  rw [← HP.out] at ho1 hPl HPd hg3
  rw [← HP.out]
  rw [hPl] at hg3 ho1 ⊢
  have HPl : Hid (P.length = 16) := hPl
  have HO1 : Hid (Own w1 w.heap.size (.slice (some ⟨g, 0, none⟩) 16 c1) P) := ho1
  have hsl : sliced (some ⟨g, 0, none⟩) 8 16 c1 1 = .slice (some ⟨g, 8, none⟩) 8 (c1 - 8) := by
    unfold Go.sliced
    rw [if_neg (by omega)]
    simp [Addr.add]
  have k2 : ∀ w', (Instr.slice 25 (.slice (some ⟨g, 0, none⟩) 16 c1) (some (.int .i64 8)) none none).run Try.prog w' = .ok (.slice (some ⟨g, 8, none⟩) 8 (c1 - 8)) w' := fun w' => by
    rw [run_slice_l _ _ _ _ _ und8 _ _ (by omega) (by omega), elem8, size8, ← hsl]; rfl
  clear hb1 ho1 hPl hsl
  go_wp2_with fail
  go_ret
  exact ⟨g, c1, P, rfl, HPl.out, HPd.out, HO1.out, HB1.out⟩
/-- Eight's bytes, as a value of the index. -/
theorem eight_rdx {w w' : World} {base g c1 : Nat} {P : List UInt8} {ob : Option Nat} (hP : P.length = 16) (ho : Own w' w.heap.size (.slice (some ⟨g, 0, none⟩) 16 c1) P) (hb : base ≤ w.heap.size) (hob : ∀ k, ob = some k → k < w.heap.size) : RdX w' base ob (.slice (some ⟨g, 8, none⟩) 8 (c1 - 8)) (P.drop 8) := by
  have hr := ho.reads
  rcases ho.2 with ⟨q, _⟩ | ⟨g', cap, cur, hv, hg, hw, hc, hm, hs, _⟩
  · cases q
  simp only [Value.slice.injEq, Option.some.injEq, Addr.mk.injEq, and_true] at hv
  obtain ⟨rfl, _, rfl⟩ := hv
  rw [hP] at hc
  refine ⟨?_, g, 8, 8, c1 - 8, cur, rfl, by omega, hw, fun e => by have := hob g e; omega⟩
  have hr' : Reads w' (.slice (some ⟨g, 0, none⟩) P.length c1) P := by rw [hP]; exact hr
  have := hr'.sliced (c := 8) (d := 16) (by omega) (by omega)
  unfold Go.sliced at this
  rw [if_neg (by omega), ← hP, List.take_length] at this
  simpa [Addr.add, hP] using this
set_option maxRecDepth 100000 in
set_option maxHeartbeats 4000000 in
theorem refWr10_any (v : Value) (L : List Et) (w : World) (h : TRd w v L) (hl : tmF L = 0 → L.length ≤ 3000) : Calls Try.prog 8 #[v] w fun e w' => ∃ v', e = .returned (.tuple #[v', .int .i64 (twE L)]) ∧ Own w' w.heap.size v' (twB L) ∧ Below w.heap.size w w' := by
  have hRt := refRight10_any v L w h
  obtain ⟨a, cap, rfl, hc, hm⟩ : ∃ a cap, v = .slice a L.length cap ∧ L.length ≤ cap ∧ cap ≤ maxLen := by obtain ⟨a, cap, h1, h2, h3, _⟩ := h; exact ⟨a, cap, h1, h2, h3⟩
  unfold maxLen at hm
  have HR : Hid (TRd w (.slice a L.length cap) L) := h
  obtain ⟨N, HN⟩ : ∃ n, Hid (L.length = n) := ⟨_, rfl⟩
  rw [HN.out] at HR hc hRt hl ⊢
  clear h
  by_cases ht : tmF L = 0
  case neg =>
    have HE : Hid (twE L = tmF L) := by unfold Hid twE; rw [if_pos ht]
    have HB : Hid (twB L = []) := by unfold Hid twB; rw [HE.out, if_neg ht]
    have htb : (tmF L == 0) = false := by simpa using ht
    rw [HE.out, HB.out]
    obtain ⟨t, HTt⟩ := hid_ex (tmF L)
    rw [← HTt.out] at hRt htb ⊢
    have HRt : Hid (Calls Try.prog 23 #[.slice a N cap] w _) := hRt
    clear hRt ht hl
    go_enter Try.func8, Try.ntmps8
    go_wp2_with fail
    refine HRt.out.mono ?_
    clear HRt
    rintro e w1 ⟨rfl, hb1⟩
    have HB1 : Hid (Below w.heap.size w w1) := hb1
    clear hb1
    go_wp2_with fail
    go_ret2
    exact ⟨_, rfl, Own.nil _ _, HB1.out⟩
  have hl3 := hl ht
  have HT : Hid (TOk L) := tm_ok ht
  have HKI : Hid ((wrB (tIdx L)).length ≤ 65535) := by
    unfold Hid
    have h1 := tIdx_len2 HT.out
    have h2 : tK L.length ≤ 188 := by rw [HN.out]; unfold tK; omega
    have := Nat.mul_le_mul_right 270 h2
    omega
  have HE : Hid (twE L = 0) := by unfold Hid twE; rw [if_neg (by rw [ht]; decide), if_neg (by have := HKI.out; omega)]
  have HB : Hid (twB L = cat (tabL L)) := by unfold Hid twB; rw [if_pos HE.out]
  rw [HE.out]
  obtain ⟨RES, HRES⟩ := hid_ex (twB L)
  rw [← HRES.out]
  rw [ht] at hRt
  have HRt : Hid (Calls Try.prog 23 #[.slice a N cap] w _) := hRt
  have hN4 : N ≤ 4096 := by omega
  obtain ⟨hno, hf2, hd1, hd2, hf1⟩ := rmN_ok hN4
  obtain ⟨d, HD⟩ := hid_ex (rmN N)
  rw [← HD.out] at hd1 hd2 hf1
  have hf21 : (fitF (N : Int)).2.1 = 6 := by rw [hf2]
  have hf22 : (fitF (N : Int)).2.2 = 0 := by rw [hf2]
  have HFt : Hid (∀ w, Calls Try.prog 24 #[.int .i64 (N : Int)] w fun e w' => e = .returned (.tuple #[.int .i64 (8 * (d : Int)), .int .i64 6, .int .i64 0]) ∧ w' = w) := fun w => by
    have := refFit_any_B (N : Int) w
    rw [hf21, hf22, hf1] at this
    exact this
  have HNw : Hid (∀ w, Calls Try.prog 25 #[.int .i64 (8 * (d : Int)), .int .i64 6] w _) := fun w => refNew_ok d 6 (by rw [hf1] at hno; exact hno) w
  clear hRt ht hl hno hf2 hf1 hf21 hf22
  go_enter Try.func8, Try.ntmps8
  go_wp2_with fail
  refine HRt.out.mono ?_
  clear HRt
  rintro e w1 ⟨rfl, hb1⟩
  have HB1 : Hid (Below w.heap.size w w1) := hb1
  clear hb1
  go_wp2_with fail
  refine (HFt.out _).mono ?_
  rintro e w1' ⟨rfl, rfl⟩
  go_wp2_with fail
  refine (HNw.out _).mono ?_
  clear HNw HFt
  rintro e w2 ⟨vf, rfl, hf, hb2⟩
  have HB2 : Hid (Below w.heap.size w w2) := HB1.out.trans (hb2.mono HB1.out.size)
  have hf' : RF w2 w.heap.size vf 6 (dgs (List.replicate d 0)) := by
    rw [dgs_zero]
    obtain ⟨B, g, cp, q1, q2, q3, q4, q5⟩ := hf
    exact ⟨B, g, cp, q1, Nat.le_trans HB1.out.size q2, q3, q4.mono HB1.out.size, q5⟩
  have HJ2 : Hid (JR w w2 (.slice none 0 0) [] (.slice none 0 0) [] vf (List.replicate d 0)) := ⟨Own.nil _ _, RxR.nil _ _ _ _, hf', HB2.out⟩
  obtain ⟨FB, rfl⟩ := hf.ptr
  obtain ⟨D0, HD0⟩ := hid_ex (List.replicate d (0 : UInt8))
  rw [← HD0.out] at HJ2
  clear hf hf' hb2 HB1 HB2
  go_wp2_with fail
  go_loopw [10, 11, 12] (fun o ix i wr => ∃ (j : Nat), i = .int .i64 ((16 * j : Nat) : Int) ∧ j ≤ tK N ∧ Hid (JR w wr o (cat ((tRows L).take j)) ix ((tIdx L).take j) (.pointer (some ⟨FB, 0, none⟩)) D0)) (fun _ _ i _ => N + 16 - (intOf i).toNat)
  case atStart => exact ⟨0, rfl, by omega, HJ2⟩
  case round =>
    obtain ⟨j, rfl, hj, HJ⟩ := hrel
    by_cases hlt : 16 * j < N
    · have hlt' : ((16 * j : Nat) : Int) < (N : Int) := by omega
      have hjr : j < (tRows L).length := by rw [tRows_len, HN.out]; exact tK_lt.2 hlt
      have hji : j < (tIdx L).length := by rw [tIdx_len, HN.out]; exact tK_lt.2 hlt
      have HRow : Hid (cat ((tRows L).take (j + 1)) = cat ((tRows L).take j) ++ frm (tRow L j)) := by unfold Hid; rw [cat_snoc _ _ hjr, tRows_at hjr]
      have HIx : Hid ((tIdx L).take (j + 1) = (tIdx L).take j ++ [(tLast L j, u8s (cat ((tRows L).take j)).length)]) := by
        unfold Hid
        rw [List.take_add_one, List.getElem?_eq_getElem hji, tIdx_at hji]
        rfl
      have HOL : Hid ((cat ((tRows L).take j)).length ≤ 1300000) := Nat.le_trans (en_le (tRows L) j) (tCat_len HT.out)
      have HXL : Hid (((tIdx L).take j).length = j) := by unfold Hid; rw [List.length_take]; omega
      have HRW : Hid (wrB (rowP (tCh L j)) = tRow L j) := rfl
      have HRWL : Hid ((tRow L j).length ≤ 4848) := tRow_len HT.out j
      obtain ⟨O, HO⟩ := hid_ex (cat ((tRows L).take j))
      obtain ⟨X, HX⟩ := hid_ex ((tIdx L).take j)
      obtain ⟨R, HRr⟩ := hid_ex (tRow L j)
      rw [← HO.out] at HJ HRow HIx HOL
      rw [← HX.out] at HJ HIx HXL
      rw [← HRr.out] at HRow HRW HRWL
      have hE := tCh_len L j
      rw [HN.out] at hE
      have hla := tLast_at (l := L) (j := j) (by rw [HN.out]; exact hlt)
      have HRg : Hid (∀ x ∈ tCh L j, rightB x.2 = true) := fun x hx => (HT.out.a x (tCh_mem hx)).2
      obtain ⟨E, HEe⟩ : ∃ n, Hid ((tCh L j).length = n) := ⟨_, rfl⟩
      rw [HEe.out] at hE
      have hE0 : 0 < E := by omega
      have hE1 : E ≤ 16 := by omega
      have HEq : Hid (E = min 16 (N - 16 * j)) := hE
      clear hE
      obtain ⟨Q, HQ⟩ : ∃ q, Hid (16 * j + (E - 1) = q) := ⟨_, rfl⟩
      have hq : Q < L.length := by rw [HN.out, ← HQ.out]; have := HEq.out; omega
      simp only [HEe.out, HQ.out] at hla
      obtain ⟨b, off, kv, rfl, hbw, hcs, hrk, _⟩ := HR.out.at (j := Q) hq rfl
      rw [← hla] at hrk
      clear hla
      obtain ⟨T, HTL⟩ := hid_ex (tLast L j)
      rw [← HTL.out] at hrk HIx
      obtain ⟨ka, kc, rfl, hkm⟩ := hrk.form
      unfold maxLen at hkm
      obtain ⟨KL, HKL⟩ : ∃ n, Hid (T.length = n) := ⟨_, rfl⟩
      rw [HKL.out] at hrk hkm hcs
      have HKr : Hid (Reads w (.slice ka KL kc) T) := hrk
      have HC0 : Hid (w.cell? ⟨b, off + Q * 7, none⟩ = some (.slice ka KL kc)) := by show w.cell? ⟨b, off + Q * 7, none⟩ = some (.slice ka KL kc); have := hcs 0 (by decide); simpa [e7] using this
      have HBW : Hid (b < w.heap.size) := hbw
      have c0 := (HJ.out.b.cell (p := ⟨b, off + Q * 7 + 0, none⟩) hbw).trans (hcs 0 (by decide))
      simp only [e7, List.getElem_cons_zero, Nat.add_zero] at c0
      obtain ⟨OL, HOl⟩ : ∃ n, Hid (O.length = n) := ⟨_, rfl⟩
      obtain ⟨ao, co, hvo, _⟩ := HJ.out.o.form
      rw [HOl.out] at hvo
      subst hvo
      obtain ⟨ai, ci, hvi⟩ := HJ.out.i.form
      rw [HXL.out] at hvi
      subst hvi
      rw [HOl.out] at HIx HOL
      have hOL := HOL.out
      have hwu : IntKind.u64.wrap (OL : Int) = (OL : Int) := by rw [IntKind.wrap_u64]; omega
      clear hrk hcs
      by_cases hgt : N < 16 * j + 16
      · have hgt' : (N : Int) < ((16 * j : Nat) : Int) + 16 := by omega
        have hEq := HEq.out
        have hTo : (N : Int) = ((16 * j + E : Nat) : Int) := by omega
        have hQe := HQ.out
        have HTo : Hid ((N : Int) = ((16 * j + E : Nat) : Int)) := hTo
        have hsub : IntKind.i64.wrap ((N : Int) - 1) = (Q : Int) := by rw [hTo, show ((16 * j + E : Nat) : Int) - 1 = (Q : Int) by omega]; simp [IntKind.wrap, IntKind.bits, IntKind.signed]; omega
        have hwQ : IntKind.i64.wrap (Q : Int) = (Q : Int) := by simp [IntKind.wrap, IntKind.bits, IntKind.signed]; omega
        have hsub2 : (N : Int) - 1 = (Q : Int) := by omega
        have hQN : (Q : Int) < (N : Int) := by omega
        have hQN2 : Q < N := by omega
        clear hEq hTo hQe
        go_wp2_with fail
        refine wp_region_noPanic ?_
        refine wp_region_held_drew (S := (fun w' => w'.cell? ⟨b, off + Q * 7, none⟩ = some (.slice ka KL kc))) (by kernel_rfl) ?_ (fun hHeld => ?_)
        · exact c0
        refine tk (i := 0) (v := .slice ai j ci) rfl ?_ ?_
        · intro w1 hSw; go_simp
        simp only [za, zc, Act.put, zd, ze, zf]
        refine tk (i := 1) (v := .slice (some ⟨b, off, none⟩) N cap) rfl ?_ ?_
        · intro w1 hSw; go_simp
        simp only [za, zb, zc, Act.put, zd, ze, zf]
        refine tk (i := 2) (v := .int .i64 (N : Int)) rfl ?_ ?_
        · intro w1 hSw; go_simp
        simp only [za, zb, zc, Act.put, zd, ze, zf]
        refine tk (i := 3) (v := .int .i64 (Q : Int)) rfl ?_ ?_
        · intro w1 hSw; go_simp
        simp only [za, zb, zc, Act.put, zd, ze, zf]
        refine tk (i := 4) (v := .pointer (some ⟨b, off + Q * 7, none⟩)) rfl ?_ ?_
        · intro w1 hSw; go_simp
        simp only [za, zb, zc, Act.put, zd, ze, zf]
        refine tk (i := 5) (v := .pointer (some ⟨b, off + Q * 7, none⟩)) rfl ?_ ?_
        · intro w1 hSw; go_simp
        simp only [za, zb, zc, Act.put, zd, ze, zf]
        refine tk (i := 6) (v := .slice ka KL kc) rfl ?_ ?_
        · intro w1 hSw; go_simp
        simp only [za, zb, zc, Act.put, zd, ze, zf]
        refine tk (i := 7) (v := .slice ao OL co) rfl ?_ ?_
        · intro w1 hSw; go_simp
        simp only [za, zb, zc, Act.put, zd, ze, zf]
        refine tk (i := 8) (v := .int .i64 (OL : Int)) rfl ?_ ?_
        · intro w1 hSw; go_simp
        simp only [za, zb, zc, Act.put, zd, ze, zf]
        refine tk (i := 9) (v := .int .u64 (OL : Int)) rfl ?_ ?_
        · intro w1 hSw; go_simp
        simp only [za, zb, zc, Act.put, zd, ze, zf]
        refine wpAnyH_ready (rs := [10]) (by kernel_rfl) (by simp) ?_
        refine AllReadyH.cons (o := _) rfl (fun K hK => ?_) AllReadyH.nil
        go_simp
        refine (eightC_any (OL : Int) (by omega) (by omega) wr.drew).mono ?_
        rintro e Wa ⟨g, c1, P, rfl, hPl, hPd, hoa, hba⟩
        have HJa : Hid (JR w Wa (.slice ao OL co) O (.slice ai j ci) X (.pointer (some ⟨FB, 0, none⟩)) D0) := HJ.out.drew.below hba
        have HRx : Hid (RdX Wa w.heap.size (Value.slice ao OL co).ownBlock (.slice (some ⟨g, 8, none⟩) 8 (c1 - 8)) (u8s OL)) := by
          have := eight_rdx (ob := (Value.slice ao OL co).ownBlock) hPl hoa HJ.out.drew.b.size (fun k hk => (World.ownsRow.lt HJ.out.drew.o k hk).2)
          rw [hPd, Int.toNat_natCast] at this; exact this
        have ca := (HJa.out.b.cell (p := ⟨b, off + Q * 7, none⟩) HBW.out).trans HC0.out
        obtain ⟨C1, HC1⟩ := hid_ex (c1 - 8)
        rw [← HC1.out] at HRx ⊢
        clear hPl hPd hoa hba HC1
        go_simp
        refine hK.out _ _ ?_ (fun hHeld => ?_)
        · exact ca
        clear hK K
        refine tk (i := 11) (v := .agg #[.slice ka KL kc, .slice (some ⟨g, 8, none⟩) 8 C1]) rfl ?_ ?_
        · intro w1 hSw; go_simp
        simp only [za, zb, zc, Act.put, zd, ze, zf]
        refine wpAnyH_ready (rs := [12]) (by kernel_rfl) (by simp) ?_
        refine AllReadyH.cons (o := _) rfl (fun K hK => ?_) AllReadyH.nil
        go_simp
        obtain ⟨Wc, HWc⟩ := hid_ex (Wa.alloc (.cells #[.slice ka KL kc, .slice (some ⟨g, 8, none⟩) 8 C1] 64))
        have hbc : Below Wa.heap.size Wa Wc := by rw [HWc.out]; exact (Below.refl _ _).alloc (Nat.le_refl _) _
        have hxc : Wc.heap[Wa.heap.size]? = some (.cells #[.slice ka KL kc, .slice (some ⟨g, 8, none⟩) 8 C1] 64) := by rw [HWc.out]; exact heap_alloc_new _ _
        have HJc : Hid (JR w Wc (.slice ao OL co) O (.slice ai j ci) X (.pointer (some ⟨FB, 0, none⟩)) D0) := HJa.out.below hbc
        obtain ⟨vd, Wd, hrd, ⟨ad, cd, hvd⟩, hJd⟩ := HJc.out.app HKr.out (HRx.out.below hbc) hxc (by rw [HXL.out]; omega) 62
        rw [HXL.out] at hvd
        subst hvd
        have HJd : Hid (JR w Wd (.slice ao OL co) O (.slice ad (j + 1) cd) (X ++ [(T, u8s OL)]) (.pointer (some ⟨FB, 0, none⟩)) D0) := hJd
        have cc := (HJc.out.b.cell (p := ⟨b, off + Q * 7, none⟩) HBW.out).trans HC0.out
        have cd' := (HJd.out.b.cell (p := ⟨b, off + Q * 7, none⟩) HBW.out).trans HC0.out
        rw [← HWc.out]
        clear HWc hxc hbc hJd HRx HJa
        refine hK.out _ _ ?_ (fun hHeld => ?_)
        · exact cc
        clear hK K
        refine wpAnyH_ready (rs := [13]) (by kernel_rfl) (by simp) ?_
        refine AllReadyH.cons (o := _) rfl (fun K hK => ?_) AllReadyH.nil
        refine wp_app_runT _ _ _ _ (by rfl) (by rfl) _ _ _ (by rfl) (by rfl) hrd ?_
        simp only [za, zb, zc, Act.put, zd, ze, zf]
        refine hK.out _ _ ?_ (fun hHeld => ?_)
        · exact cd'
        clear hK K
        refine tk (i := 14) (v := .slice ad (j + 1) cd) rfl ?_ ?_
        · intro w1 hSw; go_simp
        simp only [za, zb, zc, Act.put, zd, ze, zf]
        refine wpAnyH_done (by kernel_rfl) ?_ _
        refine NoPanic.normal ?_
        have hSl := HR.out
        rw [← HN.out] at hSl
        have hSl := hSl.sliced (c := 16 * j) (d := 16 * j + E) (m := cap) (by omega) (by rw [HN.out]; have := HQ.out; omega) (by have := HQ.out; omega) (Nat.le_refl _)
        rw [tCh_eq L j (16 * j + E) (by rw [HN.out]; have := HEq.out; omega) (by rw [HN.out]; omega)] at hSl
        obtain ⟨sa, sc, hsv⟩ : ∃ sa sc, Go.sliced (some ⟨b, off, none⟩) (16 * j) (16 * j + E) cap 7 = .slice sa E sc := by obtain ⟨sa, sc, q, _⟩ := hSl; exact ⟨sa, sc, by rw [q, HEe.out]⟩
        rw [hsv] at hSl
        have HSl : Hid (TRd w (.slice sa E sc) (tCh L j)) := hSl
        have HSL : Hid (∀ w', (Instr.slice 22 (.slice (some ⟨b, off, none⟩) N cap) (some (.int .i64 (16 * (j : Int)))) (some (.int .i64 (N : Int))) none).run Try.prog w' = .ok (.slice sa E sc) w') := fun w' => by
          have hTo := HTo.out
          have hQe := HQ.out
          rw [run_slice_lh _ _ _ _ _ undTe _ _ _ _ (by omega) (by omega) (by omega), elemTe, sizeTe, show (16 * (j : Int)).toNat = 16 * j by omega, show ((N : Int)).toNat = 16 * j + E by omega]
          show Result.ok (Go.sliced (some ⟨b, off, none⟩) (16 * j) (16 * j + E) cap 7) w' = _
          rw [hsv]
        have hsl := HSL.out
        have hRo := refRow10_any _ (tCh L j) Wd (HSl.out.below HJd.out.b) (by rw [HEe.out]; omega) HRg.out
        rw [HRW.out] at hRo
        have HRo : Hid (Calls Try.prog 28 #[.slice sa E sc] Wd _) := hRo
        clear hSl hsv hRo hrd cc cd' ca c0 HSL HJc
        go_wp2_with fail
        refine HRo.out.mono ?_
        clear HRo
        rintro e We ⟨ve, rfl, hoe, hbe⟩
        have HJe : Hid (JR w We (.slice ao OL co) O (.slice ad (j + 1) cd) (X ++ [(T, u8s OL)]) (.pointer (some ⟨FB, 0, none⟩)) D0) := HJd.out.below hbe
        have HFm : Hid (Calls Try.prog 27 #[ve] We _) := refFrame_any ve R (by have := HRWL.out; omega) We hoe.reads
        obtain ⟨ae, ce, hve, _⟩ := hoe.form
        subst hve
        clear hoe hbe HJd
        go_wp2_with fail
        refine HFm.out.mono ?_
        clear HFm
        rintro e Wf ⟨vf, rfl, hof, hbf⟩
        have HJf : Hid (JR w Wf (.slice ao OL co) O (.slice ad (j + 1) cd) (X ++ [(T, u8s OL)]) (.pointer (some ⟨FB, 0, none⟩)) D0) := HJe.out.below hbf
        obtain ⟨vh, Wh, hrh, ⟨ah, ch, hvh⟩, hJh, _⟩ := HJf.out.appO hof.reads (by rw [frm_len]; omega) (by rw [HOl.out, frm_len]; have := HRWL.out; omega) 25
        obtain ⟨FL, HFL⟩ : ∃ n, Hid ((O ++ frm R).length = n) := ⟨_, rfl⟩
        rw [HFL.out] at hvh
        subst hvh
        have HJh : Hid (JR w Wh (.slice ah FL ch) (cat ((tRows L).take (j + 1))) (.slice ad (j + 1) cd) ((tIdx L).take (j + 1)) (.pointer (some ⟨FB, 0, none⟩)) D0) := by rw [HRow.out, HIx.out]; exact hJh
        obtain ⟨ag, cg, hvg, _⟩ := hof.form
        subst hvg
        have hj1 : j + 1 ≤ tK N := by rw [← HN.out]; exact tK_lt.2 (by rw [HN.out]; exact hlt)
        clear hof hbf HJe hJh HJf
        go_wp2_with (at_builtin; refine wpList_app_runT rfl _ _ _ _ (by rfl) (by rfl) _ _ _ (by rfl) (by rfl) hrh ?_; clear hrh)
        go_roundw
        case rel => exact ⟨j + 1, by go_num, hj1, HJh⟩
        case measure => simp [intOf]; omega
      · have hgt' : ¬ (N : Int) < ((16 * j : Nat) : Int) + 16 := by omega
        have hEq := HEq.out
        have hTo : 16 * (j : Int) + 16 = ((16 * j + E : Nat) : Int) := by omega
        have hQe := HQ.out
        have HTo : Hid ((16 * (j : Int) + 16) = ((16 * j + E : Nat) : Int)) := hTo
        have hsub : IntKind.i64.wrap ((16 * (j : Int) + 16) - 1) = (Q : Int) := by rw [hTo, show ((16 * j + E : Nat) : Int) - 1 = (Q : Int) by omega]; simp [IntKind.wrap, IntKind.bits, IntKind.signed]; omega
        have hwQ : IntKind.i64.wrap (Q : Int) = (Q : Int) := by simp [IntKind.wrap, IntKind.bits, IntKind.signed]; omega
        have hsub2 : (16 * (j : Int) + 16) - 1 = (Q : Int) := by omega
        have hQN : (Q : Int) < (N : Int) := by omega
        have hQN2 : Q < N := by omega
        clear hEq hTo hQe
        go_wp2_with fail
        refine wp_region_noPanic ?_
        refine wp_region_held_drew (S := (fun w' => w'.cell? ⟨b, off + Q * 7, none⟩ = some (.slice ka KL kc))) (by kernel_rfl) ?_ (fun hHeld => ?_)
        · exact c0
        refine tk (i := 0) (v := .slice ai j ci) rfl ?_ ?_
        · intro w1 hSw; go_simp
        simp only [za, zc, Act.put, zd, ze, zf]
        refine tk (i := 1) (v := .slice (some ⟨b, off, none⟩) N cap) rfl ?_ ?_
        · intro w1 hSw; go_simp
        simp only [za, zb, zc, Act.put, zd, ze, zf]
        refine tk (i := 2) (v := .int .i64 (16 * (j : Int) + 16)) rfl ?_ ?_
        · intro w1 hSw; go_simp
        simp only [za, zb, zc, Act.put, zd, ze, zf]
        refine tk (i := 3) (v := .int .i64 (Q : Int)) rfl ?_ ?_
        · intro w1 hSw; go_simp
        simp only [za, zb, zc, Act.put, zd, ze, zf]
        refine tk (i := 4) (v := .pointer (some ⟨b, off + Q * 7, none⟩)) rfl ?_ ?_
        · intro w1 hSw; go_simp
        simp only [za, zb, zc, Act.put, zd, ze, zf]
        refine tk (i := 5) (v := .pointer (some ⟨b, off + Q * 7, none⟩)) rfl ?_ ?_
        · intro w1 hSw; go_simp
        simp only [za, zb, zc, Act.put, zd, ze, zf]
        refine tk (i := 6) (v := .slice ka KL kc) rfl ?_ ?_
        · intro w1 hSw; go_simp
        simp only [za, zb, zc, Act.put, zd, ze, zf]
        refine tk (i := 7) (v := .slice ao OL co) rfl ?_ ?_
        · intro w1 hSw; go_simp
        simp only [za, zb, zc, Act.put, zd, ze, zf]
        refine tk (i := 8) (v := .int .i64 (OL : Int)) rfl ?_ ?_
        · intro w1 hSw; go_simp
        simp only [za, zb, zc, Act.put, zd, ze, zf]
        refine tk (i := 9) (v := .int .u64 (OL : Int)) rfl ?_ ?_
        · intro w1 hSw; go_simp
        simp only [za, zb, zc, Act.put, zd, ze, zf]
        refine wpAnyH_ready (rs := [10]) (by kernel_rfl) (by simp) ?_
        refine AllReadyH.cons (o := _) rfl (fun K hK => ?_) AllReadyH.nil
        go_simp
        refine (eightC_any (OL : Int) (by omega) (by omega) wr.drew).mono ?_
        rintro e Wa ⟨g, c1, P, rfl, hPl, hPd, hoa, hba⟩
        have HJa : Hid (JR w Wa (.slice ao OL co) O (.slice ai j ci) X (.pointer (some ⟨FB, 0, none⟩)) D0) := HJ.out.drew.below hba
        have HRx : Hid (RdX Wa w.heap.size (Value.slice ao OL co).ownBlock (.slice (some ⟨g, 8, none⟩) 8 (c1 - 8)) (u8s OL)) := by
          have := eight_rdx (ob := (Value.slice ao OL co).ownBlock) hPl hoa HJ.out.drew.b.size (fun k hk => (World.ownsRow.lt HJ.out.drew.o k hk).2)
          rw [hPd, Int.toNat_natCast] at this; exact this
        have ca := (HJa.out.b.cell (p := ⟨b, off + Q * 7, none⟩) HBW.out).trans HC0.out
        obtain ⟨C1, HC1⟩ := hid_ex (c1 - 8)
        rw [← HC1.out] at HRx ⊢
        clear hPl hPd hoa hba HC1
        go_simp
        refine hK.out _ _ ?_ (fun hHeld => ?_)
        · exact ca
        clear hK K
        refine tk (i := 11) (v := .agg #[.slice ka KL kc, .slice (some ⟨g, 8, none⟩) 8 C1]) rfl ?_ ?_
        · intro w1 hSw; go_simp
        simp only [za, zb, zc, Act.put, zd, ze, zf]
        refine wpAnyH_ready (rs := [12]) (by kernel_rfl) (by simp) ?_
        refine AllReadyH.cons (o := _) rfl (fun K hK => ?_) AllReadyH.nil
        go_simp
        obtain ⟨Wc, HWc⟩ := hid_ex (Wa.alloc (.cells #[.slice ka KL kc, .slice (some ⟨g, 8, none⟩) 8 C1] 64))
        have hbc : Below Wa.heap.size Wa Wc := by rw [HWc.out]; exact (Below.refl _ _).alloc (Nat.le_refl _) _
        have hxc : Wc.heap[Wa.heap.size]? = some (.cells #[.slice ka KL kc, .slice (some ⟨g, 8, none⟩) 8 C1] 64) := by rw [HWc.out]; exact heap_alloc_new _ _
        have HJc : Hid (JR w Wc (.slice ao OL co) O (.slice ai j ci) X (.pointer (some ⟨FB, 0, none⟩)) D0) := HJa.out.below hbc
        obtain ⟨vd, Wd, hrd, ⟨ad, cd, hvd⟩, hJd⟩ := HJc.out.app HKr.out (HRx.out.below hbc) hxc (by rw [HXL.out]; omega) 62
        rw [HXL.out] at hvd
        subst hvd
        have HJd : Hid (JR w Wd (.slice ao OL co) O (.slice ad (j + 1) cd) (X ++ [(T, u8s OL)]) (.pointer (some ⟨FB, 0, none⟩)) D0) := hJd
        have cc := (HJc.out.b.cell (p := ⟨b, off + Q * 7, none⟩) HBW.out).trans HC0.out
        have cd' := (HJd.out.b.cell (p := ⟨b, off + Q * 7, none⟩) HBW.out).trans HC0.out
        rw [← HWc.out]
        clear HWc hxc hbc hJd HRx HJa
        refine hK.out _ _ ?_ (fun hHeld => ?_)
        · exact cc
        clear hK K
        refine wpAnyH_ready (rs := [13]) (by kernel_rfl) (by simp) ?_
        refine AllReadyH.cons (o := _) rfl (fun K hK => ?_) AllReadyH.nil
        refine wp_app_runT _ _ _ _ (by rfl) (by rfl) _ _ _ (by rfl) (by rfl) hrd ?_
        simp only [za, zb, zc, Act.put, zd, ze, zf]
        refine hK.out _ _ ?_ (fun hHeld => ?_)
        · exact cd'
        clear hK K
        refine tk (i := 14) (v := .slice ad (j + 1) cd) rfl ?_ ?_
        · intro w1 hSw; go_simp
        simp only [za, zb, zc, Act.put, zd, ze, zf]
        refine wpAnyH_done (by kernel_rfl) ?_ _
        refine NoPanic.normal ?_
        have hSl := HR.out
        rw [← HN.out] at hSl
        have hSl := hSl.sliced (c := 16 * j) (d := 16 * j + E) (m := cap) (by omega) (by rw [HN.out]; have := HQ.out; omega) (by have := HQ.out; omega) (Nat.le_refl _)
        rw [tCh_eq L j (16 * j + E) (by rw [HN.out]; have := HEq.out; omega) (by rw [HN.out]; omega)] at hSl
        obtain ⟨sa, sc, hsv⟩ : ∃ sa sc, Go.sliced (some ⟨b, off, none⟩) (16 * j) (16 * j + E) cap 7 = .slice sa E sc := by obtain ⟨sa, sc, q, _⟩ := hSl; exact ⟨sa, sc, by rw [q, HEe.out]⟩
        rw [hsv] at hSl
        have HSl : Hid (TRd w (.slice sa E sc) (tCh L j)) := hSl
        have HSL : Hid (∀ w', (Instr.slice 22 (.slice (some ⟨b, off, none⟩) N cap) (some (.int .i64 (16 * (j : Int)))) (some (.int .i64 (16 * (j : Int) + 16))) none).run Try.prog w' = .ok (.slice sa E sc) w') := fun w' => by
          have hTo := HTo.out
          have hQe := HQ.out
          rw [run_slice_lh _ _ _ _ _ undTe _ _ _ _ (by omega) (by omega) (by omega), elemTe, sizeTe, show (16 * (j : Int)).toNat = 16 * j by omega, show ((16 * (j : Int) + 16)).toNat = 16 * j + E by omega]
          show Result.ok (Go.sliced (some ⟨b, off, none⟩) (16 * j) (16 * j + E) cap 7) w' = _
          rw [hsv]
        have hsl := HSL.out
        have hRo := refRow10_any _ (tCh L j) Wd (HSl.out.below HJd.out.b) (by rw [HEe.out]; omega) HRg.out
        rw [HRW.out] at hRo
        have HRo : Hid (Calls Try.prog 28 #[.slice sa E sc] Wd _) := hRo
        clear hSl hsv hRo hrd cc cd' ca c0 HSL HJc
        go_wp2_with fail
        refine HRo.out.mono ?_
        clear HRo
        rintro e We ⟨ve, rfl, hoe, hbe⟩
        have HJe : Hid (JR w We (.slice ao OL co) O (.slice ad (j + 1) cd) (X ++ [(T, u8s OL)]) (.pointer (some ⟨FB, 0, none⟩)) D0) := HJd.out.below hbe
        have HFm : Hid (Calls Try.prog 27 #[ve] We _) := refFrame_any ve R (by have := HRWL.out; omega) We hoe.reads
        obtain ⟨ae, ce, hve, _⟩ := hoe.form
        subst hve
        clear hoe hbe HJd
        go_wp2_with fail
        refine HFm.out.mono ?_
        clear HFm
        rintro e Wf ⟨vf, rfl, hof, hbf⟩
        have HJf : Hid (JR w Wf (.slice ao OL co) O (.slice ad (j + 1) cd) (X ++ [(T, u8s OL)]) (.pointer (some ⟨FB, 0, none⟩)) D0) := HJe.out.below hbf
        obtain ⟨vh, Wh, hrh, ⟨ah, ch, hvh⟩, hJh, _⟩ := HJf.out.appO hof.reads (by rw [frm_len]; omega) (by rw [HOl.out, frm_len]; have := HRWL.out; omega) 25
        obtain ⟨FL, HFL⟩ : ∃ n, Hid ((O ++ frm R).length = n) := ⟨_, rfl⟩
        rw [HFL.out] at hvh
        subst hvh
        have HJh : Hid (JR w Wh (.slice ah FL ch) (cat ((tRows L).take (j + 1))) (.slice ad (j + 1) cd) ((tIdx L).take (j + 1)) (.pointer (some ⟨FB, 0, none⟩)) D0) := by rw [HRow.out, HIx.out]; exact hJh
        obtain ⟨ag, cg, hvg, _⟩ := hof.form
        subst hvg
        have hj1 : j + 1 ≤ tK N := by rw [← HN.out]; exact tK_lt.2 (by rw [HN.out]; exact hlt)
        clear hof hbf HJe hJh HJf
        go_wp2_with (at_builtin; refine wpList_app_runT rfl _ _ _ _ (by rfl) (by rfl) _ _ _ (by rfl) (by rfl) hrh ?_; clear hrh)
        go_roundw
        case rel => exact ⟨j + 1, by go_num, hj1, HJh⟩
        case measure => simp [intOf]; omega
    · have hlt' : ¬ ((16 * j : Nat) : Int) < (N : Int) := by omega
      have hjK : j = tK N := by have := tK_lt (n := N) (j := j); omega
      have hO1 : (tRows L).take j = tRows L := List.take_of_length_le (by rw [tRows_len, HN.out, hjK]; omega)
      have hO2 : (tIdx L).take j = tIdx L := List.take_of_length_le (by rw [tIdx_len, HN.out, hjK]; omega)
      rw [hO1, hO2] at HJ
      have HRESe : Hid (RES = cat (tRows L) ++ frm (wrB (tIdx L)) ++ frm (rmB L) ++ frm (tFoot L)) := by
        unfold Hid
        rw [HRES.out, HB.out]
        unfold tabL
        rw [cat_append]
        simp [cat, List.append_assoc]
      have HOL : Hid ((cat (tRows L)).length ≤ 1300000) := tCat_len HT.out
      have HIL : Hid (tIdx L = tIdx L) := rfl
      have HMb : Hid (mbF (tIdx L) = 0) := tIdx_ok HT.out
      have HXl : Hid ((tIdx L).length ≤ 188) := by unfold Hid; rw [tIdx_len, HN.out]; unfold tK; have := hl3; omega
      have HRB : Hid (rmB L = 6 :: rmD N L) := by unfold Hid rmB; rw [HN.out]
      have HFt : Hid (tFoot L = u8s N ++ u8s (cat (tRows L)).length) := by unfold Hid tFoot; rw [HN.out]
      have HFl : Hid ((tFoot L).length = 16) := tFoot_len L
      have HRl : Hid ((rmB L).length ≤ 8193) := by unfold Hid; rw [rmB_len, HN.out, ← HD.out]; omega
      have HD1 : Hid (D0 = rmD N (L.take 0)) := by unfold Hid; rw [HD0.out, HD.out]; rfl
      obtain ⟨OO, HO⟩ := hid_ex (cat (tRows L))
      obtain ⟨XX, HX⟩ := hid_ex (tIdx L)
      obtain ⟨FT, HFT⟩ := hid_ex (tFoot L)
      rw [← HO.out] at HJ HOL HFt HRESe
      rw [← HX.out] at HJ HMb HRESe HKI HXl
      rw [← HFT.out] at HFt HFl HRESe
      obtain ⟨OL, HOl⟩ : ∃ n, Hid (OO.length = n) := ⟨_, rfl⟩
      obtain ⟨XL, HXL⟩ : ∃ n, Hid (XX.length = n) := ⟨_, rfl⟩
      obtain ⟨ao, co, hvo, _⟩ := HJ.out.o.form
      rw [HOl.out] at hvo
      subst hvo
      obtain ⟨ai, ci, hvi⟩ := HJ.out.i.form
      rw [HXL.out] at hvi
      subst hvi
      rw [HOl.out] at HOL HFt
      rw [HD1.out] at HJ
      clear hO1 hO2 hjK HIL
      go_wp2_with fail
      go_loopw [16] (fun i wz => ∃ (m : Nat), i = .int .i64 (m : Int) ∧ m ≤ N ∧ Hid (JR w wz (.slice ao OL co) OO (.slice ai XL ci) XX (.pointer (some ⟨FB, 0, none⟩)) (rmD N (L.take m)))) (fun i _ => N - (intOf i).toNat)
      case atStart => exact ⟨0, rfl, by omega, HJ⟩
      case round =>
        rename World => wz
        obtain ⟨m, rfl, hm9, HZ⟩ := hrel
        by_cases hmN : m < N
        · have hmN' : (m : Int) < (N : Int) := by omega
          have hml : m < L.length := by rw [HN.out]; exact hmN
          obtain ⟨x, Hx⟩ := hid_ex L[m]
          have HSn : Hid (rmD N (L.take (m + 1)) = adF (rmD N (L.take m)) (plc x.1 (8 * (rmD N (L.take m)).length) 6)) := by
            unfold Hid
            have := rmD_snoc (n := N) hml Hx.out
            rw [this]
            congr 2
            unfold rmD
            rw [rmD_len N _ _ (by simp)]
          have HKl : Hid (x.1.length ≤ 256) := by unfold Hid; rw [Hx.out]; exact (HT.out.k _ (List.getElem_mem hml)).2
          obtain ⟨b, off, kv, rfl, hbw, hcs, hrk, _⟩ := HR.out.at hml Hx.out
          obtain ⟨k, A⟩ := x
          simp only at hrk HSn HKl
          obtain ⟨ka, kc, rfl, hkm⟩ := hrk.form
          obtain ⟨KL, HKL⟩ : ∃ n, Hid (k.length = n) := ⟨_, rfl⟩
          rw [HKL.out] at hrk hkm hcs
          have HRk : Hid (Reads w (.slice ka KL kc) k) := hrk
          have c0 := (HZ.out.b.cell (p := ⟨b, off + m * 7 + 0, none⟩) hbw).trans (hcs 0 (by decide))
          simp only [e7, List.getElem_cons_zero, Nat.add_zero] at c0
          have HAd : Hid (Calls Try.prog 29 #[.pointer (some ⟨FB, 0, none⟩), .slice ka KL kc] wz _) := refAddK_any _ _ 6 (rmD N (L.take m)) k (by have := HKl.out; omega) w wz w.heap.size HZ.out.b.size HZ.out.f HRk.out HZ.out.b (Nat.le_refl _)
          clear hrk hcs hkm
          go_wp2_with fail
          refine HAd.out.mono ?_
          clear HAd
          rintro e wy ⟨⟨u, rfl⟩, hF, hby, hky⟩
          have HY : Hid (JR w wy (.slice ao OL co) OO (.slice ai XL ci) XX (.pointer (some ⟨FB, 0, none⟩)) (rmD N (L.take (m + 1)))) := by rw [HSn.out]; exact ⟨own_kpT HZ.out.o hky (by decide), HZ.out.i.kpT hky (by decide) (by decide), hF, HZ.out.b.trans hby⟩
          clear hF hby hky
          go_wp2_with fail
          go_roundw
          case rel => exact ⟨m + 1, by go_num, by omega, HY⟩
          case measure => simp [intOf]; omega
        · have hmN' : ¬ (m : Int) < (N : Int) := by omega
          have hLm : L.take m = L := List.take_of_length_le (by rw [HN.out]; omega)
          rw [hLm] at HZ
          have hwN : IntKind.u64.wrap (N : Int) = (N : Int) := by rw [IntKind.wrap_u64]; omega
          have hOL := HOL.out
          have hwO : IntKind.u64.wrap (OL : Int) = (OL : Int) := by rw [IntKind.wrap_u64]; omega
          clear hLm
          go_wp2_with fail
          refine (eightC_any (N : Int) (by omega) (by omega) _).mono ?_
          rintro e wa ⟨g, c1, P, rfl, hPl, hPd, hoa, hba⟩
          have HBa : Hid (Below wz.heap.size wz wa) := hba
          have HPl : Hid (P.length = 16) := hPl
          have HPd : Hid (P.drop 8 = u8s N) := by rw [Int.toNat_natCast] at hPd; exact hPd
          have HOa : Hid (Own wa wz.heap.size (.slice (some ⟨g, 0, none⟩) 16 c1) P) := hoa
          obtain ⟨C1, HC1⟩ := hid_ex (c1 - 8)
          rw [← HC1.out]
          clear hPl hPd hoa hba
          go_wp2_with fail
          refine (eightC_any (OL : Int) (by omega) (by omega) _).mono ?_
          rintro e wb ⟨g2, c2, P2, rfl, hPl2, hPd2, hob, hbb⟩
          have HOb : Hid (Own wb wz.heap.size (.slice (some ⟨g, 0, none⟩) 16 c1) P) := HOa.out.below hbb
          have hr2 := (eight_rdx (base := 0) (ob := none) hPl2 hob (Nat.zero_le _) (fun _ q => by cases q)).1
          rw [hPd2, Int.toNat_natCast] at hr2
          have hzb : wz.heap.size ≤ wb.heap.size := Nat.le_trans (World.ownsRow.lt HOa.out g rfl).1 (Nat.le_of_lt (World.ownsRow.lt HOb.out g rfl).2)
          obtain ⟨vc, wc, hrc, hRc, hbc⟩ := foot_app HPl.out HOb.out hzb hr2 (u8s_len _) 25
          rw [HPd.out, ← HFt.out] at hRc
          rw [← HC1.out] at hrc
          obtain ⟨C2, HC2⟩ := hid_ex (c2 - 8)
          rw [← HC2.out] at hrc ⊢
          have HCJ : Hid (JR w wc (.slice ao OL co) OO (.slice ai XL ci) XX (.pointer (some ⟨FB, 0, none⟩)) (rmD N L)) := HZ.out.below (HBa.out.trans ((hbb.mono HBa.out.size).trans hbc))
          have HRf : Hid (Reads wc vc FT) := hRc
          obtain ⟨fa, fc, hfv, _⟩ := HRf.out.form
          rw [HFl.out] at hfv
          subst hfv
          have hw1 := refWrite_any _ XX wc (HCJ.out.i.reads HCJ.out.b)
          rw [HMb.out] at hw1
          obtain ⟨PI, HPI⟩ := hid_ex (wrB XX)
          rw [← HPI.out] at hw1 HKI HRESe
          have HW1 : Hid (Calls Try.prog 30 #[.slice ai XL ci] wc _) := hw1
          clear hPl2 hPd2 hob hbb hr2 HOa HOb hRc hbc HC1 HC2 HBa hw1 HZ
          go_wp2_with (at_builtin; refine wpList_app_runT rfl _ _ _ _ (by rfl) (by rfl) _ _ _ (by rfl) (by rfl) hrc ?_; clear hrc)
          refine HW1.out.mono ?_
          clear HW1
          rintro e wd ⟨vd, rfl, hod, hbd⟩
          have HDJ : Hid (JR w wd (.slice ao OL co) OO (.slice ai XL ci) XX (.pointer (some ⟨FB, 0, none⟩)) (rmD N L)) := HCJ.out.below hbd
          have HRfd : Hid (Reads wd (.slice fa 16 fc) FT) := HRf.out.below hbd
          have HF1 : Hid (Calls Try.prog 27 #[vd] wd _) := refFrame_any vd PI HKI.out wd hod.reads
          obtain ⟨da, dc, hdv, _⟩ := hod.form
          subst hdv
          clear hod hbd HCJ HRf
          go_wp2_with fail
          refine HF1.out.mono ?_
          clear HF1
          rintro e we ⟨vx, rfl, hox, hbx⟩
          have HEJ : Hid (JR w we (.slice ao OL co) OO (.slice ai XL ci) XX (.pointer (some ⟨FB, 0, none⟩)) (rmD N L)) := HDJ.out.below hbx
          have HRfe : Hid (Reads we (.slice fa 16 fc) FT) := HRfd.out.below hbx
          have HXx : Hid (RdX we w.heap.size (Value.slice ao OL co).ownBlock vx (frm PI)) := RdX.of_own2 hox (by rw [frm_len]; omega) HDJ.out.b.size (fun k hk => (World.ownsRow.lt HDJ.out.o k hk).2)
          have hw2 := refWrite_any_B _ 6 (rmD N L) we w.heap.size HEJ.out.f
          rw [show UInt8.ofNat 6 :: rmD N L = rmB L from HRB.out.symm] at hw2
          obtain ⟨RB, HRb⟩ := hid_ex (rmB L)
          rw [← HRb.out] at hw2 HRl HRESe
          have HW2 : Hid (Calls Try.prog 31 #[.pointer (some ⟨FB, 0, none⟩)] we _) := hw2
          obtain ⟨xa, xc, hxv, _⟩ := hox.form
          obtain ⟨XF, HXF⟩ : ∃ n, Hid ((frm PI).length = n) := ⟨_, rfl⟩
          rw [HXF.out] at hxv
          subst hxv
          clear hox hbx hw2 HDJ HRfd
          go_wp2_with fail
          refine HW2.out.mono ?_
          clear HW2
          rintro e wf ⟨vy, rfl, hoy, hby⟩
          have HFJ : Hid (JR w wf (.slice ao OL co) OO (.slice ai XL ci) XX (.pointer (some ⟨FB, 0, none⟩)) (rmD N L)) := HEJ.out.below hby
          have HRff : Hid (Reads wf (.slice fa 16 fc) FT) := HRfe.out.below hby
          have HXx1 : Hid (RdX wf w.heap.size (Value.slice ao OL co).ownBlock (.slice xa XF xc) (frm PI)) := HXx.out.below hby
          have HF2 : Hid (Calls Try.prog 27 #[vy] wf _) := refFrame_any vy RB (by have := HRl.out; omega) wf hoy.reads
          obtain ⟨ya, yc, hyv, _⟩ := hoy.form
          subst hyv
          clear hoy hby HEJ HRfe HXx
          go_wp2_with fail
          refine HF2.out.mono ?_
          clear HF2
          rintro e wg ⟨vz, rfl, hoz, hbz⟩
          have HGJ : Hid (JR w wg (.slice ao OL co) OO (.slice ai XL ci) XX (.pointer (some ⟨FB, 0, none⟩)) (rmD N L)) := HFJ.out.below hbz
          have HRfg : Hid (Reads wg (.slice fa 16 fc) FT) := HRff.out.below hbz
          have HXx2 : Hid (RdX wg w.heap.size (Value.slice ao OL co).ownBlock (.slice xa XF xc) (frm PI)) := HXx1.out.below hbz
          have HYy : Hid (RdX wg w.heap.size (Value.slice ao OL co).ownBlock vz (frm RB)) := RdX.of_own2 hoz (by rw [frm_len]; omega) HFJ.out.b.size (fun k hk => (World.ownsRow.lt HFJ.out.o k hk).2)
          obtain ⟨za, zc, hzv, _⟩ := hoz.form
          obtain ⟨YF, HYF⟩ : ∃ n, Hid ((frm RB).length = n) := ⟨_, rfl⟩
          rw [HYF.out] at hzv
          subst hzv
          have HF3 : Hid (Calls Try.prog 27 #[.slice fa 16 fc] wg _) := refFrame_any _ FT (by rw [HFl.out]; decide) wg HRfg.out
          clear hoz hbz HFJ HRff HXx1
          go_wp2_with fail
          refine HF3.out.mono ?_
          clear HF3
          rintro e wh ⟨vq, rfl, hoq, hbq⟩
          have HHJ : Hid (JR w wh (.slice ao OL co) OO (.slice ai XL ci) XX (.pointer (some ⟨FB, 0, none⟩)) (rmD N L)) := HGJ.out.below hbq
          have HXx3 : Hid (RdX wh w.heap.size (Value.slice ao OL co).ownBlock (.slice xa XF xc) (frm PI)) := HXx2.out.below hbq
          have HYy1 : Hid (RdX wh w.heap.size (Value.slice ao OL co).ownBlock (.slice za YF zc) (frm RB)) := HYy.out.below hbq
          have HQq : Hid (RdX wh w.heap.size (Value.slice ao OL co).ownBlock vq (frm FT)) := RdX.of_own2 hoq (by rw [frm_len]; omega) HGJ.out.b.size (fun k hk => (World.ownsRow.lt HGJ.out.o k hk).2)
          obtain ⟨qa, qc, hqv, _⟩ := hoq.form
          obtain ⟨QF, HQF⟩ : ∃ n, Hid ((frm FT).length = n) := ⟨_, rfl⟩
          have hQF : QF = 24 := by rw [← HQF.out, frm_len, HFl.out]
          have hXF : XF ≤ 65543 := by rw [← HXF.out, frm_len]; have := HKI.out; omega
          have hYF : YF ≤ 8201 := by rw [← HYF.out, frm_len]; have := HRl.out; omega
          rw [HQF.out] at hqv
          subst hqv
          obtain ⟨v1, wi, hr1, ⟨a1, k1, hv1⟩, hJ1, hk1⟩ := HHJ.out.appO HXx3.out.1 (by rw [frm_len]; omega) (by rw [HOl.out, HXF.out]; omega) 25
          have hY1 := hk1 _ _ HYy1.out
          have hQ1 := hk1 _ _ HQq.out
          have hl1 : (OO ++ frm PI).length = OL + XF := by rw [List.length_append, HOl.out, HXF.out]
          rw [hl1] at hv1
          obtain ⟨v2, wj, hr2, ⟨a2, k2, hv2⟩, hJ2, hk2⟩ := hJ1.appO hY1.1 (by rw [frm_len]; omega) (by rw [hl1, HYF.out]; omega) 25
          have hQ2 := hk2 _ _ hQ1
          have hl2 : (OO ++ frm PI ++ frm RB).length = OL + XF + YF := by rw [List.length_append, hl1, HYF.out]
          rw [hl2] at hv2
          obtain ⟨v3, wk, hr3, ⟨a3, k3, hv3⟩, hJ3, _⟩ := hJ2.appO hQ2.1 (by rw [frm_len]; omega) (by rw [hl2, HQF.out]; omega) 25
          rw [← HRESe.out] at hv3 hJ3
          have HO9 : Hid (Own wk w.heap.size v3 RES) := hJ3.o
          have HB9 : Hid (Below w.heap.size w wk) := hJ3.b
          subst hv1
          subst hv2
          subst hv3
          clear hoq hbq HGJ HRfg HXx2 HYy hk1 hk2 hY1 hQ1 hQ2 hJ1 hJ2 hJ3 hl1 hl2 HHJ HXx3 HYy1 HQq hQF hXF hYF
          go_wp2_with (at_builtin; first | (refine wpList_app_runT rfl _ _ _ _ (by rfl) (by rfl) _ _ _ (by rfl) (by rfl) hr1 ?_; clear hr1) | (refine wpList_app_runT rfl _ _ _ _ (by rfl) (by rfl) _ _ _ (by rfl) (by rfl) hr2 ?_; clear hr2) | (refine wpList_app_runT rfl _ _ _ _ (by rfl) (by rfl) _ _ _ (by rfl) (by rfl) hr3 ?_; clear hr3))
          go_ret2
          exact ⟨_, rfl, HO9.out, HB9.out⟩
end Go.Proofs.Ytlpjdfgknmfmnaa
