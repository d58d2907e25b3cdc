/- MLw, joined. -/
import Derived.Test.YtilbffgpniomcaaGreatDoorLD9
import Derived.Test.YtilbffgpniomcaaGreatDoorLD15
import Derived.Test.YtilbffgpniomcaaGreatDoorLD19
import Derived.Test.YtilbffgpniomcaaGreatDoorLD29
import Derived.Test.YtilbffgpniomcaaGreatDoorLD30
/- ManifestLoads' walk (written by mkmlw.py). -/
namespace Go.Proofs.YtilbffgpniomcaaGreatDoor
open Go.RowKit Go.Shelf

theorem rpF_len : ∀ (ds : List (List UInt8)) (s : St) (m : Bool), s.ru.length ≤ 64 → (rpF ds s m).1.ru.length ≤ 64
  | [], _, _, h => h
  | d :: ds, s, m, h => by
    cases he : edR d with
    | none => rw [rpF_no _ _ _ he]; exact h
    | some x =>
      rcases ha : apS s x with ⟨o, c⟩
      cases o with
      | none => rw [rpF_stop _ _ _ he (by rw [ha])]; exact h
      | some t => rw [rpF_on _ _ _ he (by rw [ha])]; exact rpF_len ds t true (apS_ok ha).ok.2.2.2.2.2.1
theorem rp_len (b : List UInt8) : (rpF (fmS b) st0 false).1.ru.length ≤ 100000 := Nat.le_trans (rpF_len _ _ _ (by simp [st0])) (by decide)
set_option maxRecDepth 100000 in
set_option maxHeartbeats 8000000 in
theorem loads_walk (v0 : Value) (a0 : List UInt8) (v1 : Value) (a1 : List UInt8) (n : Int) (t : Bool) (W : World) (h0 : Reads W v0 a0) (h1 : Reads W v1 a1) (hT : Tb W) :
    Calls Tryz.prog 3 #[v0, v1, .int .i64 n, .bool t] W fun e W' => e = .returned (.bool true) ∧ Below W.heap.size W W' := by
  have HR0 : Hid (Reads W v0 a0) := h0
  have HR1 : Hid (Reads W v1 a1) := h1
  have HTb : Hid (Tb W) := hT
  obtain ⟨pa, pc, hv0, hm0⟩ := h0.form
  obtain ⟨la, lc, hv1, hm1⟩ := h1.form
  unfold maxLen at hm0 hm1
  obtain ⟨PL, HPL⟩ : ∃ k, Hid (a0.length = k) := ⟨_, rfl⟩
  obtain ⟨LL, HLL⟩ : ∃ k, Hid (a1.length = k) := ⟨_, rfl⟩
  rw [HPL.out] at hv0 hm0
  rw [HLL.out] at hv1 hm1
  subst hv0
  subst hv1
  clear h0 h1 hT
  go_enter Tryz.func3, Tryz.ntmps3
  by_cases g1 : 200 < PL
  · have g1' : (200 : Int) < (PL : Int) := by omega
    go_wp2_with fail
    refine (alive13_any W).mono ?_
    rintro e w1 ⟨rfl, hb1⟩
    go_wp2_with fail
    go_ret
    exact ⟨rfl, hb1⟩
  · have g1' : ¬ (200 : Int) < (PL : Int) := by omega
    by_cases g2 : 2000 < LL
    · have g2' : (2000 : Int) < (LL : Int) := by omega
      go_wp2_with fail
      refine (alive13_any W).mono ?_
      rintro e w1 ⟨rfl, hb1⟩
      go_wp2_with fail
      go_ret
      exact ⟨rfl, hb1⟩
    · have g2' : ¬ (2000 : Int) < (LL : Int) := by omega
      have d2 : decide ((2000 : Int) < (LL : Int)) = false := decide_eq_false g2'
      have H0l : Hid (a0.length ≤ 200) := by unfold Hid; rw [HPL.out]; omega
      have H1l : Hid (a1.length ≤ 2000) := by unfold Hid; rw [HLL.out]; omega
      go_wp2_with fail
      refine (fsW_new 10000 W W (Below.refl _ _) (by decide) (by decide)).mono ?_
      rintro e w1 ⟨p, rfl, hf1⟩
      obtain ⟨g0, rfl⟩ := hf1.ptr
      have HF1 : Hid (FsW W w1 (.pointer (some ⟨g0, 0, none⟩)) (sfZ 10000)) := hf1
      clear hf1 g1 g1' g2 g2' d2 hm0 hm1
      obtain ⟨v0, Hv0⟩ := hid_ex (Value.slice pa PL pc)
      obtain ⟨v1, Hv1⟩ := hid_ex (Value.slice la LL lc)
      rw [← Hv0.out] at HR0 ⊢
      rw [← Hv1.out] at HR1 ⊢
      clear Hv0 Hv1 HPL HLL pa pc la lc
      cases t with
      | false =>
        have HF3 : Hid (FsW W w1 (.pointer (some ⟨g0, 0, none⟩)) (sfZ 10000)) := HF1.out
        obtain ⟨w3, Hw3⟩ := hid_ex w1
        rw [← Hw3.out] at HF3 ⊢
        clear HF1
        have HNm : Hid (Calls Tryz.prog 11 #[.int .i64 n] w3 _) := refName13_any n w3
        obtain ⟨NM, HNM⟩ := hid_ex (nmF man n)
        rw [← HNM.out] at HNm
        go_wp2_with fail
        refine HNm.out.mono ?_
        clear HNm
        rintro e w4 ⟨rfl, hb4⟩
        have HF4 : Hid (FsW W w4 (.pointer (some ⟨g0, 0, none⟩)) (sfZ 10000)) := HF3.out.below hb4
        clear hb4 HF3
        cases hno : isNo n with
        | false =>
          have hN : NM = [] := by rw [HNM.out]; exact nmF_no (fun z => by rw [isNo_iff.2 z] at hno; cases hno)
          subst hN
          have HF : Hid (FsW W w4 (.pointer (some ⟨g0, 0, none⟩)) (ldSt false n a0 a1)) := by
            unfold Hid ldSt
            rw [if_neg (by rw [hno]; simp)]
            exact HF4.out
          clear HF4 HNM hno
          have hLd := HF.out.load (fun nm => ld_len H0l.out H1l.out nm) HTb.out
          rw [ld_tell] at hLd
          obtain ⟨R, HR⟩ := hid_ex (if (false : Bool) = false then ((none, 4) : Option (St × Int) × Int) else if (ptF a0).getD 0 = 0 ∨ (ptF a0).getD 0 ≠ n ∨ (rpF (fmS a1) st0 false).2 = false then (none, 114) else (some ((rpF (fmS a1) st0 false).1, n), 0))
          rw [← HR.out] at hLd
          have HLd : Hid (Calls Tryz.prog 12 #[.pointer (some ⟨g0, 0, none⟩)] w4 (LdP R w4)) := hLd
          have HBW4 : Hid (Below W.heap.size W w4) := HF.out.b
          clear hLd
          go_wp2_with fail
          refine HLd.out.mono ?_
          clear HLd
          rintro e w5 ⟨v5, rfl, hu5, hb5⟩
          obtain ⟨a5, c5, hv5, _⟩ := hu5.r.form
          subst hv5
          obtain ⟨T, HT⟩ := hid_ex (ldS R)
          obtain ⟨M, HM⟩ := hid_ex (ldN R)
          obtain ⟨G, HG⟩ := hid_ex R.2
          rw [← HT.out] at hu5 ⊢
          rw [← HM.out, ← HG.out]
          obtain ⟨L5, HL5⟩ : ∃ k, Hid (T.ru.length = k) := ⟨_, rfl⟩
          rw [HL5.out] at hu5 ⊢
          have HU5 : Hid (UR w5 (.slice a5 L5 c5) T.ru) := hu5
          have HBW5 : Hid (Below W.heap.size W w5) := HBW4.out.trans (hb5.mono HBW4.out.size)
          have HOn5 : Hid (([.slice a5 L5 c5, .int .i64 T.lo, .int .i64 T.ne, .int .i64 T.ma] : List Value).toArray.all (·.oneCell') = true) := by unfold Hid; kernel_rfl
          clear hu5 hb5
          go_wp2_with (refine stop_store 33 _ _ rfl ?_)
          refine Stop.of ?_
          refine wpList_storeN rfl _ _ _ rfl w5.heap.size 0 [.slice a5 L5 c5, .int .i64 T.lo, .int .i64 T.ne, .int .i64 T.ma] rfl rfl _ _ (heap_alloc_new _ _) (by simp) (by kernel_rfl) HOn5.out ?_
          intro w6 hw6
          obtain ⟨hb6, hx6, hz6⟩ := stW_nw hw6 (by simp)
          obtain ⟨P1, HP1⟩ := hid_ex w5.heap.size
          rw [← HP1.out] at hx6 hz6 ⊢
          have HBW6 : Hid (Below W.heap.size W w6) := HBW5.out.trans (hb6.mono HBW5.out.size)
          have HU6 : Hid (UR w6 (.slice a5 L5 c5) T.ru) := HU5.out.below hb6
          have HX6 : Hid (w6.heap[P1]? = some (.cells #[.slice a5 L5 c5, .int .i64 T.lo, .int .i64 T.ne, .int .i64 T.ma] 33)) := hx6
          have hLg := refLog_any v1 a1 H1l.out w6 (HR1.out.below HBW6.out)
          obtain ⟨Q, HQ⟩ := hid_ex (rpF (fmS a1) st0 false)
          rw [← HQ.out] at hLg HR
          obtain ⟨la, lc, hv1, _⟩ := HR1.out.form
          subst hv1
          obtain ⟨LL, HLL⟩ : ∃ k, Hid (a1.length = k) := ⟨_, rfl⟩
          rw [HLL.out] at hLg ⊢
          have HLg : Hid (Calls Tryz.prog 13 #[.slice la LL lc] w6 (RpP Q w6)) := hLg
          clear hw6 hb6 hx6 hLg HU5
          go_wp2_with fail
          refine HLg.out.mono ?_
          clear HLg
          rintro e w7 ⟨v7, rfl, hu7, hb7, _⟩
          obtain ⟨a6, c6, hv7, _⟩ := hu7.r.form
          subst hv7
          obtain ⟨L6, HL6⟩ : ∃ k, Hid (Q.1.ru.length = k) := ⟨_, rfl⟩
          rw [HL6.out] at hu7 ⊢
          have HU7 : Hid (UR w7 (.slice a6 L6 c6) Q.1.ru) := hu7
          have HS7 : Hid (UR w7 (.slice a5 L5 c5) T.ru) := HU6.out.below hb7
          have HX7 : Hid (w7.heap[P1]? = some (.cells #[.slice a5 L5 c5, .int .i64 T.lo, .int .i64 T.ne, .int .i64 T.ma] 33)) := (hb7.block _ hz6).trans HX6.out
          have hz7 : P1 < w7.heap.size := Nat.lt_of_lt_of_le hz6 hb7.size
          have HBW7 : Hid (Below W.heap.size W w7) := HBW6.out.trans (hb7.mono HBW6.out.size)
          have HOn6 : Hid (([.slice a6 L6 c6, .int .i64 Q.1.lo, .int .i64 Q.1.ne, .int .i64 Q.1.ma] : List Value).toArray.all (·.oneCell') = true) := by unfold Hid; kernel_rfl
          clear hu7 hb7 HU6 HX6
          go_wp2_with (refine stop_store 38 _ _ rfl ?_)
          refine Stop.of ?_
          refine wpList_storeN rfl _ _ _ rfl w7.heap.size 0 [.slice a6 L6 c6, .int .i64 Q.1.lo, .int .i64 Q.1.ne, .int .i64 Q.1.ma] rfl rfl _ _ (heap_alloc_new _ _) (by simp) (by kernel_rfl) HOn6.out ?_
          intro w8 hw8
          obtain ⟨hb8, hx8, hz8⟩ := stW_nw hw8 (by simp)
          obtain ⟨P2, HP2⟩ := hid_ex w7.heap.size
          rw [← HP2.out] at hx8 hz8 ⊢
          have HBW8 : Hid (Below W.heap.size W w8) := HBW7.out.trans (hb8.mono HBW7.out.size)
          have HU8 : Hid (UR w8 (.slice a6 L6 c6) Q.1.ru) := HU7.out.below hb8
          have HS8 : Hid (UR w8 (.slice a5 L5 c5) T.ru) := HS7.out.below hb8
          have HX8 : Hid (w8.heap[P1]? = some (.cells #[.slice a5 L5 c5, .int .i64 T.lo, .int .i64 T.ne, .int .i64 T.ma] 33)) := (hb8.block _ hz7).trans HX7.out
          have HY8 : Hid (w8.heap[P2]? = some (.cells #[.slice a6 L6 c6, .int .i64 Q.1.lo, .int .i64 Q.1.ne, .int .i64 Q.1.ma] 38)) := hx8
          clear hw8 hb8 hx8 HU7 HS7 HX7
          have hPt := refPointed_any v0 a0 (Nat.le_trans H0l.out (by decide)) w8 (HR0.out.below HBW8.out)
          obtain ⟨A, HA⟩ := hid_ex ((ptF a0).getD 0)
          rw [← HA.out] at hPt HR
          obtain ⟨pa, pc, hv0, _⟩ := HR0.out.form
          subst hv0
          obtain ⟨PL, HPL⟩ : ∃ k, Hid (a0.length = k) := ⟨_, rfl⟩
          rw [HPL.out] at hPt ⊢
          have HPt : Hid (Calls Tryz.prog 14 #[.slice pa PL pc] w8 _) := hPt
          clear hPt
          go_wp2_with fail
          refine HPt.out.mono ?_
          clear HPt
          rintro e w9 ⟨rfl, hb9⟩
          have hl1 : P1 < w8.heap.size := (Array.getElem?_eq_some_iff.1 HX8.out).1
          have hl2 : P2 < w8.heap.size := (Array.getElem?_eq_some_iff.1 HY8.out).1
          have HBW9 : Hid (Below W.heap.size W w9) := HBW8.out.trans (hb9.mono HBW8.out.size)
          have HU9 : Hid (UR w9 (.slice a6 L6 c6) Q.1.ru) := HU8.out.below hb9
          have HS9 : Hid (UR w9 (.slice a5 L5 c5) T.ru) := HS8.out.below hb9
          have HX9 : Hid (w9.heap[P1]? = some (.cells #[.slice a5 L5 c5, .int .i64 T.lo, .int .i64 T.ne, .int .i64 T.ma] 33)) := (hb9.block _ hl1).trans HX8.out
          have HY9 : Hid (w9.heap[P2]? = some (.cells #[.slice a6 L6 c6, .int .i64 Q.1.lo, .int .i64 Q.1.ne, .int .i64 Q.1.ma] 38)) := (hb9.block _ hl2).trans HY8.out
          clear hb9 HU8 HS8 HX8 HY8 hl1 hl2
          have hR : R = (none, 4) := by rw [HR.out]; rfl
          have hG : G = 4 := by rw [HG.out, hR]
          have hM : M = 0 := by rw [HM.out, hR]; rfl
          have hT : T = stZ := by rw [HT.out, hR]; rfl
          have hL : L5 = 0 := by rw [← HL5.out, hT]; rfl
          subst hG
          subst hM
          subst hL
          clear HG HM HT HR hR hT
          go_wp2_with fail
          refine (alive13_any w9).mono ?_
          rintro e w10 ⟨rfl, hb10⟩
          have HB10 : Hid (Below W.heap.size W w10) := HBW9.out.trans (hb10.mono HBW9.out.size)
          have hl1 : P1 < w9.heap.size := (Array.getElem?_eq_some_iff.1 HX9.out).1
          obtain ⟨c0, c1, c2, c3⟩ := four13 ((hb10.block _ hl1).trans HX9.out)
          clear hb10
          go_wp2_with fail
          go_ret
          exact ⟨rfl, HB10.out⟩
        | true =>
          have HNn : Hid (sfName NM = true) := by unfold Hid; rw [HNM.out]; exact man_name hno
          have HNc : Hid (curN ≠ NM) := by unfold Hid; rw [HNM.out]; exact cur_ne hno
          have HNb : Hid (bytesBefore NM curN = false) := by unfold Hid; rw [HNM.out]; exact bef_cur hno
          have HNl : Hid (NM.length ≤ maxLen) := by unfold Hid; rw [HNM.out]; have := man_len (n := n); unfold maxLen; omega
          obtain ⟨x0, xr, hNe⟩ : ∃ x r, NM = x :: r := by obtain ⟨r, e⟩ := man_front hno; exact ⟨_, r, HNM.out.trans e⟩
          have hne : NM.isEmpty = false := by rw [hNe]; rfl
          have HCr : Hid (Calls Tryz.prog 9 #[.pointer (some ⟨g0, 0, none⟩), .string ⟨NM.toArray⟩] w4 _) := HF4.out.create NM HNl.out (by simp [sfZ])
          have HNe : Hid (NM = x0 :: xr) := hNe
          clear hNe
          go_wp2_with fail
          refine HCr.out.mono ?_
          clear HCr
          rintro e w5 ⟨rfl, hf5⟩
          rw [ld_cr1 HNn.out] at hf5
          have HF5 : Hid (FsW W w5 (.pointer (some ⟨g0, 0, none⟩)) (ld2 NM [])) := hf5
          rw [ld_cr1 HNn.out]
          clear hf5 HF4
          obtain ⟨la, lc, hv1, _⟩ := HR1.out.form
          subst hv1
          obtain ⟨LL, HLL⟩ : ∃ k, Hid (a1.length = k) := ⟨_, rfl⟩
          have hAp := HF5.out.append NM HNl.out _ a1 HR1.out
          rw [HLL.out] at hAp ⊢
          have HAp : Hid (Calls Tryz.prog 10 #[.pointer (some ⟨g0, 0, none⟩), .string ⟨NM.toArray⟩, .slice la LL lc] w5 _) := hAp
          clear hAp
          go_wp2_with fail
          refine HAp.out.mono ?_
          clear HAp hne
          rintro e w6 ⟨rfl, hf6⟩
          rw [ld_ap1 NM H1l.out] at hf6
          rw [ld_ap1 NM H1l.out]
          have HF6 : Hid (FsW W w6 (.pointer (some ⟨g0, 0, none⟩)) (ld2 NM a1)) := hf6
          clear hf6 HF5
          obtain ⟨v1, Hv1⟩ := hid_ex (Value.slice la LL lc)
          rw [HLL.out] at HR1
          rw [← Hv1.out] at HR1 ⊢
          have HF : Hid (FsW W w6 (.pointer (some ⟨g0, 0, none⟩)) (ldSt false n a0 a1)) := by
            unfold Hid ldSt
            rw [if_pos hno]
            rw [HNM.out] at HF6
            exact HF6.out
          clear HF6 HNM hno w4
          obtain ⟨w4, Hw4⟩ := hid_ex w6
          rw [← Hw4.out] at HF ⊢
          have hLd := HF.out.load (fun nm => ld_len H0l.out H1l.out nm) HTb.out
          rw [ld_tell] at hLd
          obtain ⟨R, HR⟩ := hid_ex (if (false : Bool) = false then ((none, 4) : Option (St × Int) × Int) else if (ptF a0).getD 0 = 0 ∨ (ptF a0).getD 0 ≠ n ∨ (rpF (fmS a1) st0 false).2 = false then (none, 114) else (some ((rpF (fmS a1) st0 false).1, n), 0))
          rw [← HR.out] at hLd
          have HLd : Hid (Calls Tryz.prog 12 #[.pointer (some ⟨g0, 0, none⟩)] w4 (LdP R w4)) := hLd
          have HBW4 : Hid (Below W.heap.size W w4) := HF.out.b
          clear hLd
          go_wp2_with fail
          refine HLd.out.mono ?_
          clear HLd
          rintro e w5 ⟨v5, rfl, hu5, hb5⟩
          obtain ⟨a5, c5, hv5, _⟩ := hu5.r.form
          subst hv5
          obtain ⟨T, HT⟩ := hid_ex (ldS R)
          obtain ⟨M, HM⟩ := hid_ex (ldN R)
          obtain ⟨G, HG⟩ := hid_ex R.2
          rw [← HT.out] at hu5 ⊢
          rw [← HM.out, ← HG.out]
          obtain ⟨L5, HL5⟩ : ∃ k, Hid (T.ru.length = k) := ⟨_, rfl⟩
          rw [HL5.out] at hu5 ⊢
          have HU5 : Hid (UR w5 (.slice a5 L5 c5) T.ru) := hu5
          have HBW5 : Hid (Below W.heap.size W w5) := HBW4.out.trans (hb5.mono HBW4.out.size)
          have HOn5 : Hid (([.slice a5 L5 c5, .int .i64 T.lo, .int .i64 T.ne, .int .i64 T.ma] : List Value).toArray.all (·.oneCell') = true) := by unfold Hid; kernel_rfl
          clear hu5 hb5
          go_wp2_with (refine stop_store 33 _ _ rfl ?_)
          refine Stop.of ?_
          refine wpList_storeN rfl _ _ _ rfl w5.heap.size 0 [.slice a5 L5 c5, .int .i64 T.lo, .int .i64 T.ne, .int .i64 T.ma] rfl rfl _ _ (heap_alloc_new _ _) (by simp) (by kernel_rfl) HOn5.out ?_
          intro w6 hw6
          obtain ⟨hb6, hx6, hz6⟩ := stW_nw hw6 (by simp)
          obtain ⟨P1, HP1⟩ := hid_ex w5.heap.size
          rw [← HP1.out] at hx6 hz6 ⊢
          have HBW6 : Hid (Below W.heap.size W w6) := HBW5.out.trans (hb6.mono HBW5.out.size)
          have HU6 : Hid (UR w6 (.slice a5 L5 c5) T.ru) := HU5.out.below hb6
          have HX6 : Hid (w6.heap[P1]? = some (.cells #[.slice a5 L5 c5, .int .i64 T.lo, .int .i64 T.ne, .int .i64 T.ma] 33)) := hx6
          have hLg := refLog_any v1 a1 H1l.out w6 (HR1.out.below HBW6.out)
          obtain ⟨Q, HQ⟩ := hid_ex (rpF (fmS a1) st0 false)
          rw [← HQ.out] at hLg HR
          obtain ⟨la, lc, hv1, _⟩ := HR1.out.form
          subst hv1
          obtain ⟨LL, HLL⟩ : ∃ k, Hid (a1.length = k) := ⟨_, rfl⟩
          rw [HLL.out] at hLg ⊢
          have HLg : Hid (Calls Tryz.prog 13 #[.slice la LL lc] w6 (RpP Q w6)) := hLg
          clear hw6 hb6 hx6 hLg HU5
          go_wp2_with fail
          refine HLg.out.mono ?_
          clear HLg
          rintro e w7 ⟨v7, rfl, hu7, hb7, _⟩
          obtain ⟨a6, c6, hv7, _⟩ := hu7.r.form
          subst hv7
          obtain ⟨L6, HL6⟩ : ∃ k, Hid (Q.1.ru.length = k) := ⟨_, rfl⟩
          rw [HL6.out] at hu7 ⊢
          have HU7 : Hid (UR w7 (.slice a6 L6 c6) Q.1.ru) := hu7
          have HS7 : Hid (UR w7 (.slice a5 L5 c5) T.ru) := HU6.out.below hb7
          have HX7 : Hid (w7.heap[P1]? = some (.cells #[.slice a5 L5 c5, .int .i64 T.lo, .int .i64 T.ne, .int .i64 T.ma] 33)) := (hb7.block _ hz6).trans HX6.out
          have hz7 : P1 < w7.heap.size := Nat.lt_of_lt_of_le hz6 hb7.size
          have HBW7 : Hid (Below W.heap.size W w7) := HBW6.out.trans (hb7.mono HBW6.out.size)
          have HOn6 : Hid (([.slice a6 L6 c6, .int .i64 Q.1.lo, .int .i64 Q.1.ne, .int .i64 Q.1.ma] : List Value).toArray.all (·.oneCell') = true) := by unfold Hid; kernel_rfl
          clear hu7 hb7 HU6 HX6
          go_wp2_with (refine stop_store 38 _ _ rfl ?_)
          refine Stop.of ?_
          refine wpList_storeN rfl _ _ _ rfl w7.heap.size 0 [.slice a6 L6 c6, .int .i64 Q.1.lo, .int .i64 Q.1.ne, .int .i64 Q.1.ma] rfl rfl _ _ (heap_alloc_new _ _) (by simp) (by kernel_rfl) HOn6.out ?_
          intro w8 hw8
          obtain ⟨hb8, hx8, hz8⟩ := stW_nw hw8 (by simp)
          obtain ⟨P2, HP2⟩ := hid_ex w7.heap.size
          rw [← HP2.out] at hx8 hz8 ⊢
          have HBW8 : Hid (Below W.heap.size W w8) := HBW7.out.trans (hb8.mono HBW7.out.size)
          have HU8 : Hid (UR w8 (.slice a6 L6 c6) Q.1.ru) := HU7.out.below hb8
          have HS8 : Hid (UR w8 (.slice a5 L5 c5) T.ru) := HS7.out.below hb8
          have HX8 : Hid (w8.heap[P1]? = some (.cells #[.slice a5 L5 c5, .int .i64 T.lo, .int .i64 T.ne, .int .i64 T.ma] 33)) := (hb8.block _ hz7).trans HX7.out
          have HY8 : Hid (w8.heap[P2]? = some (.cells #[.slice a6 L6 c6, .int .i64 Q.1.lo, .int .i64 Q.1.ne, .int .i64 Q.1.ma] 38)) := hx8
          clear hw8 hb8 hx8 HU7 HS7 HX7
          have hPt := refPointed_any v0 a0 (Nat.le_trans H0l.out (by decide)) w8 (HR0.out.below HBW8.out)
          obtain ⟨A, HA⟩ := hid_ex ((ptF a0).getD 0)
          rw [← HA.out] at hPt HR
          obtain ⟨pa, pc, hv0, _⟩ := HR0.out.form
          subst hv0
          obtain ⟨PL, HPL⟩ : ∃ k, Hid (a0.length = k) := ⟨_, rfl⟩
          rw [HPL.out] at hPt ⊢
          have HPt : Hid (Calls Tryz.prog 14 #[.slice pa PL pc] w8 _) := hPt
          clear hPt
          go_wp2_with fail
          refine HPt.out.mono ?_
          clear HPt
          rintro e w9 ⟨rfl, hb9⟩
          have hl1 : P1 < w8.heap.size := (Array.getElem?_eq_some_iff.1 HX8.out).1
          have hl2 : P2 < w8.heap.size := (Array.getElem?_eq_some_iff.1 HY8.out).1
          have HBW9 : Hid (Below W.heap.size W w9) := HBW8.out.trans (hb9.mono HBW8.out.size)
          have HU9 : Hid (UR w9 (.slice a6 L6 c6) Q.1.ru) := HU8.out.below hb9
          have HS9 : Hid (UR w9 (.slice a5 L5 c5) T.ru) := HS8.out.below hb9
          have HX9 : Hid (w9.heap[P1]? = some (.cells #[.slice a5 L5 c5, .int .i64 T.lo, .int .i64 T.ne, .int .i64 T.ma] 33)) := (hb9.block _ hl1).trans HX8.out
          have HY9 : Hid (w9.heap[P2]? = some (.cells #[.slice a6 L6 c6, .int .i64 Q.1.lo, .int .i64 Q.1.ne, .int .i64 Q.1.ma] 38)) := (hb9.block _ hl2).trans HY8.out
          clear hb9 HU8 HS8 HX8 HY8 hl1 hl2
          have hR : R = (none, 4) := by rw [HR.out]; rfl
          have hG : G = 4 := by rw [HG.out, hR]
          have hM : M = 0 := by rw [HM.out, hR]; rfl
          have hT : T = stZ := by rw [HT.out, hR]; rfl
          have hL : L5 = 0 := by rw [← HL5.out, hT]; rfl
          subst hG
          subst hM
          subst hL
          clear HG HM HT HR hR hT
          go_wp2_with fail
          refine (alive13_any w9).mono ?_
          rintro e w10 ⟨rfl, hb10⟩
          have HB10 : Hid (Below W.heap.size W w10) := HBW9.out.trans (hb10.mono HBW9.out.size)
          have hl1 : P1 < w9.heap.size := (Array.getElem?_eq_some_iff.1 HX9.out).1
          obtain ⟨c0, c1, c2, c3⟩ := four13 ((hb10.block _ hl1).trans HX9.out)
          clear hb10
          go_wp2_with fail
          go_ret
          exact ⟨rfl, HB10.out⟩
      | true =>
        have HCr : Hid (Calls Tryz.prog 9 #[.pointer (some ⟨g0, 0, none⟩), .string ⟨curN.toArray⟩] w1 _) := HF1.out.create curN (by decide) (by simp [sfZ])
        unfold curN at HCr
        go_wp2_with fail
        refine HCr.out.mono ?_
        clear HCr
        rintro e w2 ⟨rfl, hf2⟩
        have hf2' : FsW W w2 (.pointer (some ⟨g0, 0, none⟩)) (sfCreate (sfZ 10000) curN).2 := hf2
        rw [ld_cr1 (nm := curN) (by decide)] at hf2'
        have HF2 : Hid (FsW W w2 (.pointer (some ⟨g0, 0, none⟩)) (ld2 curN [])) := hf2'
        clear hf2 hf2' HF1
        obtain ⟨pa, pc, hv0, _⟩ := HR0.out.form
        subst hv0
        obtain ⟨PL, HPL⟩ : ∃ k, Hid (a0.length = k) := ⟨_, rfl⟩
        have hAp := HF2.out.append curN (by decide) _ a0 HR0.out
        rw [HPL.out] at hAp ⊢
        have HAp : Hid (Calls Tryz.prog 10 #[.pointer (some ⟨g0, 0, none⟩), .string ⟨curN.toArray⟩, .slice pa PL pc] w2 _) := hAp
        unfold curN at HAp
        clear hAp
        go_wp2_with fail
        refine HAp.out.mono ?_
        clear HAp
        rintro e w3 ⟨rfl, hf3⟩
        have hf3' : FsW W w3 (.pointer (some ⟨g0, 0, none⟩)) (sfAppend (ld2 curN []) curN a0).2 := hf3
        rw [ld_ap1 curN (Nat.le_trans H0l.out (by decide))] at hf3'
        have HF3 : Hid (FsW W w3 (.pointer (some ⟨g0, 0, none⟩)) (ld2 curN a0)) := hf3'
        clear hf3 hf3' HF2
        obtain ⟨v0, Hv0⟩ := hid_ex (Value.slice pa PL pc)
        rw [HPL.out] at HR0
        rw [← Hv0.out] at HR0 ⊢
        have HNm : Hid (Calls Tryz.prog 11 #[.int .i64 n] w3 _) := refName13_any n w3
        obtain ⟨NM, HNM⟩ := hid_ex (nmF man n)
        rw [← HNM.out] at HNm
        go_wp2_with fail
        refine HNm.out.mono ?_
        clear HNm
        rintro e w4 ⟨rfl, hb4⟩
        have HF4 : Hid (FsW W w4 (.pointer (some ⟨g0, 0, none⟩)) (ld2 curN a0)) := HF3.out.below hb4
        clear hb4 HF3
        cases hno : isNo n with
        | false =>
          have hN : NM = [] := by rw [HNM.out]; exact nmF_no (fun z => by rw [isNo_iff.2 z] at hno; cases hno)
          subst hN
          have HF : Hid (FsW W w4 (.pointer (some ⟨g0, 0, none⟩)) (ldSt true n a0 a1)) := by
            unfold Hid ldSt
            rw [if_neg (by rw [hno]; simp)]
            exact HF4.out
          clear HF4 HNM hno
          have hLd := HF.out.load (fun nm => ld_len H0l.out H1l.out nm) HTb.out
          rw [ld_tell] at hLd
          obtain ⟨R, HR⟩ := hid_ex (if (true : Bool) = false then ((none, 4) : Option (St × Int) × Int) else if (ptF a0).getD 0 = 0 ∨ (ptF a0).getD 0 ≠ n ∨ (rpF (fmS a1) st0 false).2 = false then (none, 114) else (some ((rpF (fmS a1) st0 false).1, n), 0))
          rw [← HR.out] at hLd
          have HLd : Hid (Calls Tryz.prog 12 #[.pointer (some ⟨g0, 0, none⟩)] w4 (LdP R w4)) := hLd
          have HBW4 : Hid (Below W.heap.size W w4) := HF.out.b
          clear hLd
          go_wp2_with fail
          refine HLd.out.mono ?_
          clear HLd
          rintro e w5 ⟨v5, rfl, hu5, hb5⟩
          obtain ⟨a5, c5, hv5, _⟩ := hu5.r.form
          subst hv5
          obtain ⟨T, HT⟩ := hid_ex (ldS R)
          obtain ⟨M, HM⟩ := hid_ex (ldN R)
          obtain ⟨G, HG⟩ := hid_ex R.2
          rw [← HT.out] at hu5 ⊢
          rw [← HM.out, ← HG.out]
          obtain ⟨L5, HL5⟩ : ∃ k, Hid (T.ru.length = k) := ⟨_, rfl⟩
          rw [HL5.out] at hu5 ⊢
          have HU5 : Hid (UR w5 (.slice a5 L5 c5) T.ru) := hu5
          have HBW5 : Hid (Below W.heap.size W w5) := HBW4.out.trans (hb5.mono HBW4.out.size)
          have HOn5 : Hid (([.slice a5 L5 c5, .int .i64 T.lo, .int .i64 T.ne, .int .i64 T.ma] : List Value).toArray.all (·.oneCell') = true) := by unfold Hid; kernel_rfl
          clear hu5 hb5
          go_wp2_with (refine stop_store 33 _ _ rfl ?_)
          refine Stop.of ?_
          refine wpList_storeN rfl _ _ _ rfl w5.heap.size 0 [.slice a5 L5 c5, .int .i64 T.lo, .int .i64 T.ne, .int .i64 T.ma] rfl rfl _ _ (heap_alloc_new _ _) (by simp) (by kernel_rfl) HOn5.out ?_
          intro w6 hw6
          obtain ⟨hb6, hx6, hz6⟩ := stW_nw hw6 (by simp)
          obtain ⟨P1, HP1⟩ := hid_ex w5.heap.size
          rw [← HP1.out] at hx6 hz6 ⊢
          have HBW6 : Hid (Below W.heap.size W w6) := HBW5.out.trans (hb6.mono HBW5.out.size)
          have HU6 : Hid (UR w6 (.slice a5 L5 c5) T.ru) := HU5.out.below hb6
          have HX6 : Hid (w6.heap[P1]? = some (.cells #[.slice a5 L5 c5, .int .i64 T.lo, .int .i64 T.ne, .int .i64 T.ma] 33)) := hx6
          have hLg := refLog_any v1 a1 H1l.out w6 (HR1.out.below HBW6.out)
          obtain ⟨Q, HQ⟩ := hid_ex (rpF (fmS a1) st0 false)
          rw [← HQ.out] at hLg HR
          obtain ⟨la, lc, hv1, _⟩ := HR1.out.form
          subst hv1
          obtain ⟨LL, HLL⟩ : ∃ k, Hid (a1.length = k) := ⟨_, rfl⟩
          rw [HLL.out] at hLg ⊢
          have HLg : Hid (Calls Tryz.prog 13 #[.slice la LL lc] w6 (RpP Q w6)) := hLg
          clear hw6 hb6 hx6 hLg HU5
          go_wp2_with fail
          refine HLg.out.mono ?_
          clear HLg
          rintro e w7 ⟨v7, rfl, hu7, hb7, _⟩
          obtain ⟨a6, c6, hv7, _⟩ := hu7.r.form
          subst hv7
          obtain ⟨L6, HL6⟩ : ∃ k, Hid (Q.1.ru.length = k) := ⟨_, rfl⟩
          rw [HL6.out] at hu7 ⊢
          have HU7 : Hid (UR w7 (.slice a6 L6 c6) Q.1.ru) := hu7
          have HS7 : Hid (UR w7 (.slice a5 L5 c5) T.ru) := HU6.out.below hb7
          have HX7 : Hid (w7.heap[P1]? = some (.cells #[.slice a5 L5 c5, .int .i64 T.lo, .int .i64 T.ne, .int .i64 T.ma] 33)) := (hb7.block _ hz6).trans HX6.out
          have hz7 : P1 < w7.heap.size := Nat.lt_of_lt_of_le hz6 hb7.size
          have HBW7 : Hid (Below W.heap.size W w7) := HBW6.out.trans (hb7.mono HBW6.out.size)
          have HOn6 : Hid (([.slice a6 L6 c6, .int .i64 Q.1.lo, .int .i64 Q.1.ne, .int .i64 Q.1.ma] : List Value).toArray.all (·.oneCell') = true) := by unfold Hid; kernel_rfl
          clear hu7 hb7 HU6 HX6
          go_wp2_with (refine stop_store 38 _ _ rfl ?_)
          refine Stop.of ?_
          refine wpList_storeN rfl _ _ _ rfl w7.heap.size 0 [.slice a6 L6 c6, .int .i64 Q.1.lo, .int .i64 Q.1.ne, .int .i64 Q.1.ma] rfl rfl _ _ (heap_alloc_new _ _) (by simp) (by kernel_rfl) HOn6.out ?_
          intro w8 hw8
          obtain ⟨hb8, hx8, hz8⟩ := stW_nw hw8 (by simp)
          obtain ⟨P2, HP2⟩ := hid_ex w7.heap.size
          rw [← HP2.out] at hx8 hz8 ⊢
          have HBW8 : Hid (Below W.heap.size W w8) := HBW7.out.trans (hb8.mono HBW7.out.size)
          have HU8 : Hid (UR w8 (.slice a6 L6 c6) Q.1.ru) := HU7.out.below hb8
          have HS8 : Hid (UR w8 (.slice a5 L5 c5) T.ru) := HS7.out.below hb8
          have HX8 : Hid (w8.heap[P1]? = some (.cells #[.slice a5 L5 c5, .int .i64 T.lo, .int .i64 T.ne, .int .i64 T.ma] 33)) := (hb8.block _ hz7).trans HX7.out
          have HY8 : Hid (w8.heap[P2]? = some (.cells #[.slice a6 L6 c6, .int .i64 Q.1.lo, .int .i64 Q.1.ne, .int .i64 Q.1.ma] 38)) := hx8
          clear hw8 hb8 hx8 HU7 HS7 HX7
          have hPt := refPointed_any v0 a0 (Nat.le_trans H0l.out (by decide)) w8 (HR0.out.below HBW8.out)
          obtain ⟨A, HA⟩ := hid_ex ((ptF a0).getD 0)
          rw [← HA.out] at hPt HR
          obtain ⟨pa, pc, hv0, _⟩ := HR0.out.form
          subst hv0
          obtain ⟨PL, HPL⟩ : ∃ k, Hid (a0.length = k) := ⟨_, rfl⟩
          rw [HPL.out] at hPt ⊢
          have HPt : Hid (Calls Tryz.prog 14 #[.slice pa PL pc] w8 _) := hPt
          clear hPt
          go_wp2_with fail
          refine HPt.out.mono ?_
          clear HPt
          rintro e w9 ⟨rfl, hb9⟩
          have hl1 : P1 < w8.heap.size := (Array.getElem?_eq_some_iff.1 HX8.out).1
          have hl2 : P2 < w8.heap.size := (Array.getElem?_eq_some_iff.1 HY8.out).1
          have HBW9 : Hid (Below W.heap.size W w9) := HBW8.out.trans (hb9.mono HBW8.out.size)
          have HU9 : Hid (UR w9 (.slice a6 L6 c6) Q.1.ru) := HU8.out.below hb9
          have HS9 : Hid (UR w9 (.slice a5 L5 c5) T.ru) := HS8.out.below hb9
          have HX9 : Hid (w9.heap[P1]? = some (.cells #[.slice a5 L5 c5, .int .i64 T.lo, .int .i64 T.ne, .int .i64 T.ma] 33)) := (hb9.block _ hl1).trans HX8.out
          have HY9 : Hid (w9.heap[P2]? = some (.cells #[.slice a6 L6 c6, .int .i64 Q.1.lo, .int .i64 Q.1.ne, .int .i64 Q.1.ma] 38)) := (hb9.block _ hl2).trans HY8.out
          clear hb9 HU8 HS8 HX8 HY8 hl1 hl2
          have HQl : Hid (Q.1.ru.length ≤ 100000) := by unfold Hid; rw [HQ.out]; exact rp_len a1
          obtain ⟨Qs, Qb⟩ := Q
          simp only at *
          by_cases h1 : A = 0
          · subst h1
            have hR : R = (none, 114) := by rw [HR.out, if_neg (by simp), if_pos (.inl rfl)]
            have hG : G = 114 := by rw [HG.out, hR]
            have hM : M = 0 := by rw [HM.out, hR]; rfl
            have hT : T = stZ := by rw [HT.out, hR]; rfl
            subst hG
            subst hM
            clear HG HM HT HR hR
            go_wp2_with fail
            refine (alive13_any w9).mono ?_
            rintro e w10 ⟨rfl, hb10⟩
            have HB10 : Hid (Below W.heap.size W w10) := HBW9.out.trans (hb10.mono HBW9.out.size)
            have hl1 : P1 < w9.heap.size := (Array.getElem?_eq_some_iff.1 HX9.out).1
            obtain ⟨c0, c1, c2, c3⟩ := four13 ((hb10.block _ hl1).trans HX9.out)
            have HS10 : Hid (UR w10 (.slice a5 L5 c5) T.ru) := HS9.out.below hb10
            have HTz : Hid (T = stZ) := hT
            clear hb10 hT
            go_wp2_with fail
            refine (as13_any _ T w10 HS10.out.r (by rw [HTz.out]; simp [stZ])).mono ?_
            rintro e w11 ⟨v11, rfl, hu11, hb11⟩
            have HB11 : Hid (Below W.heap.size W w11) := HB10.out.trans (hb11.mono HB10.out.size)
            obtain ⟨a11, c11, hv11, _⟩ := hu11.form
            subst hv11
            rw [HL5.out] at hu11 ⊢
            have hSm := same13_any _ (.slice none 0 0) T.ru [] T.lo T.ne T.ma 0 0 0 w11 hu11 (ur_nil w11).r
            have HSm : Hid (Calls Tryz.prog 15 #[.agg #[.slice a11 L5 c11, .int .i64 T.lo, .int .i64 T.ne, .int .i64 T.ma], .agg #[.slice none 0 0, .int .i64 0, .int .i64 0, .int .i64 0]] w11 _) := hSm
            clear hSm hu11 hb11
            go_wp2_with fail
            refine HSm.out.mono ?_
            rintro e w12 ⟨r, rfl, hr, hb12⟩
            have hr' : r = true := hr (by rw [HTz.out]; exact ⟨rfl, rfl, rfl, rfl⟩)
            subst hr'
            have HB12 : Hid (Below W.heap.size W w12) := HB11.out.trans (hb12.mono HB11.out.size)
            clear hb12 hr
            go_wp2_with fail
            go_ret
            exact ⟨rfl, HB12.out⟩
          · by_cases h2 : A = n
            · cases Qb with
              | false =>
                have hR : R = (none, 114) := by rw [HR.out, if_neg (by simp), if_pos (.inr (.inr rfl))]
                have hG : G = 114 := by rw [HG.out, hR]
                have hM : M = 0 := by rw [HM.out, hR]; rfl
                have hT : T = stZ := by rw [HT.out, hR]; rfl
                subst hG
                subst hM
                clear HG HM HT HR hR
                go_wp2_with fail
                refine (alive13_any w9).mono ?_
                rintro e w10 ⟨rfl, hb10⟩
                have HB10 : Hid (Below W.heap.size W w10) := HBW9.out.trans (hb10.mono HBW9.out.size)
                have hl1 : P1 < w9.heap.size := (Array.getElem?_eq_some_iff.1 HX9.out).1
                obtain ⟨c0, c1, c2, c3⟩ := four13 ((hb10.block _ hl1).trans HX9.out)
                have HS10 : Hid (UR w10 (.slice a5 L5 c5) T.ru) := HS9.out.below hb10
                have HTz : Hid (T = stZ) := hT
                clear hb10 hT
                go_wp2_with fail
                refine (as13_any _ T w10 HS10.out.r (by rw [HTz.out]; simp [stZ])).mono ?_
                rintro e w11 ⟨v11, rfl, hu11, hb11⟩
                have HB11 : Hid (Below W.heap.size W w11) := HB10.out.trans (hb11.mono HB10.out.size)
                obtain ⟨a11, c11, hv11, _⟩ := hu11.form
                subst hv11
                rw [HL5.out] at hu11 ⊢
                have hSm := same13_any _ (.slice none 0 0) T.ru [] T.lo T.ne T.ma 0 0 0 w11 hu11 (ur_nil w11).r
                have HSm : Hid (Calls Tryz.prog 15 #[.agg #[.slice a11 L5 c11, .int .i64 T.lo, .int .i64 T.ne, .int .i64 T.ma], .agg #[.slice none 0 0, .int .i64 0, .int .i64 0, .int .i64 0]] w11 _) := hSm
                clear hSm hu11 hb11
                go_wp2_with fail
                refine HSm.out.mono ?_
                rintro e w12 ⟨r, rfl, hr, hb12⟩
                have hr' : r = true := hr (by rw [HTz.out]; exact ⟨rfl, rfl, rfl, rfl⟩)
                subst hr'
                have HB12 : Hid (Below W.heap.size W w12) := HB11.out.trans (hb12.mono HB11.out.size)
                clear hb12 hr
                go_wp2_with fail
                go_ret
                exact ⟨rfl, HB12.out⟩
              | true =>
                have hR : R = (some (Qs, n), 0) := by rw [HR.out, if_neg (by simp), if_neg (by simp; exact ⟨h1, h2⟩)]
                have hG : G = 0 := by rw [HG.out, hR]
                have hM : M = n := by rw [HM.out, hR]; rfl
                have hT : T = Qs := by rw [HT.out, hR]; rfl
                have HAn : Hid (A = n) := h2
                subst hG
                subst hM
                have HTq : Hid (T = Qs) := hT
                clear HG HM HT HR hR hT
                obtain ⟨u0, HU0⟩ := hid_ex w9.drew
                have hbu : Below w9.heap.size w9 u0 := by rw [HU0.out]; exact (Below.refl _ _).drew
                have hl1 : P1 < w9.heap.size := (Array.getElem?_eq_some_iff.1 HX9.out).1
                have hl2 : P2 < w9.heap.size := (Array.getElem?_eq_some_iff.1 HY9.out).1
                have HBu0 : Hid (Below W.heap.size W u0) := HBW9.out.trans (hbu.mono HBW9.out.size)
                have HSu0 : Hid (UR u0 (.slice a5 L5 c5) T.ru) := HS9.out.below hbu
                have HQu0 : Hid (UR u0 (.slice a6 L6 c6) Qs.ru) := HU9.out.below hbu
                have HXu0 : Hid (u0.heap[P1]? = some (.cells #[.slice a5 L5 c5, .int .i64 T.lo, .int .i64 T.ne, .int .i64 T.ma] 33)) := (hbu.block _ hl1).trans HX9.out
                have HYu0 : Hid (u0.heap[P2]? = some (.cells #[.slice a6 L6 c6, .int .i64 Qs.lo, .int .i64 Qs.ne, .int .i64 Qs.ma] 38)) := (hbu.block _ hl2).trans HY9.out
                have HGu0 : Hid ((u0.cell? ⟨P1, 0, none⟩ = some (.slice a5 L5 c5) ∧ u0.cell? ⟨P1, 1, none⟩ = some (.int .i64 T.lo) ∧ u0.cell? ⟨P1, 2, none⟩ = some (.int .i64 T.ne) ∧ u0.cell? ⟨P1, 3, none⟩ = some (.int .i64 T.ma)) ∧ (u0.cell? ⟨P2, 0, none⟩ = some (.slice a6 L6 c6) ∧ u0.cell? ⟨P2, 1, none⟩ = some (.int .i64 Qs.lo) ∧ u0.cell? ⟨P2, 2, none⟩ = some (.int .i64 Qs.ne) ∧ u0.cell? ⟨P2, 3, none⟩ = some (.int .i64 Qs.ma))) := ⟨four13 HXu0.out, four13 HYu0.out⟩
                have hlu0 : P1 < u0.heap.size ∧ P2 < u0.heap.size := ⟨(Array.getElem?_eq_some_iff.1 HXu0.out).1, (Array.getElem?_eq_some_iff.1 HYu0.out).1⟩
                clear hbu
                go_wp2_with fail
                refine wp_region_noPanic ?_
                refine wp_region_held_drew (S := fun w' => (w'.cell? ⟨P1, 0, none⟩ = some (.slice a5 L5 c5) ∧ w'.cell? ⟨P1, 1, none⟩ = some (.int .i64 T.lo) ∧ w'.cell? ⟨P1, 2, none⟩ = some (.int .i64 T.ne) ∧ w'.cell? ⟨P1, 3, none⟩ = some (.int .i64 T.ma)) ∧ (w'.cell? ⟨P2, 0, none⟩ = some (.slice a6 L6 c6) ∧ w'.cell? ⟨P2, 1, none⟩ = some (.int .i64 Qs.lo) ∧ w'.cell? ⟨P2, 2, none⟩ = some (.int .i64 Qs.ne) ∧ w'.cell? ⟨P2, 3, none⟩ = some (.int .i64 Qs.ma))) (by kernel_rfl) ?_ (fun hHeld => ?_)
                · (rw [← HU0.out]; exact HGu0.out)
                rw [← HU0.out]
                clear HU0
                refine wpAnyH_ready (rs := [0]) (by kernel_rfl) (by simp) ?_
                refine AllReadyH.cons (o := _) rfl (fun K hK => ?_) AllReadyH.nil
                go_simp
                refine (alive13_any _).mono ?_
                rintro e u1 ⟨rfl, hb1⟩
                have HBu1 : Hid (Below W.heap.size W u1) := HBu0.out.trans (hb1.mono HBu0.out.size)
                have HSu1 : Hid (UR u1 (.slice a5 L5 c5) T.ru) := HSu0.out.below hb1
                have HQu1 : Hid (UR u1 (.slice a6 L6 c6) Qs.ru) := HQu0.out.below hb1
                have HXu1 : Hid (u1.heap[P1]? = some (.cells #[.slice a5 L5 c5, .int .i64 T.lo, .int .i64 T.ne, .int .i64 T.ma] 33)) := (hb1.block _ hlu0.1).trans HXu0.out
                have HYu1 : Hid (u1.heap[P2]? = some (.cells #[.slice a6 L6 c6, .int .i64 Qs.lo, .int .i64 Qs.ne, .int .i64 Qs.ma] 38)) := (hb1.block _ hlu0.2).trans HYu0.out
                have HGu1 : Hid ((u1.cell? ⟨P1, 0, none⟩ = some (.slice a5 L5 c5) ∧ u1.cell? ⟨P1, 1, none⟩ = some (.int .i64 T.lo) ∧ u1.cell? ⟨P1, 2, none⟩ = some (.int .i64 T.ne) ∧ u1.cell? ⟨P1, 3, none⟩ = some (.int .i64 T.ma)) ∧ (u1.cell? ⟨P2, 0, none⟩ = some (.slice a6 L6 c6) ∧ u1.cell? ⟨P2, 1, none⟩ = some (.int .i64 Qs.lo) ∧ u1.cell? ⟨P2, 2, none⟩ = some (.int .i64 Qs.ne) ∧ u1.cell? ⟨P2, 3, none⟩ = some (.int .i64 Qs.ma))) := ⟨four13 HXu1.out, four13 HYu1.out⟩
                have hlu1 : P1 < u1.heap.size ∧ P2 < u1.heap.size := ⟨(Array.getElem?_eq_some_iff.1 HXu1.out).1, (Array.getElem?_eq_some_iff.1 HYu1.out).1⟩
                clear hb1
                go_simp
                refine hK.out _ _ ?_ (fun hHeld => ?_)
                · exact HGu1.out
                clear hK K
                refine wpAnyH_take (i := 1) (v := .bool true) rfl (by kernel_rfl) (by kernel_rfl) (by kernel_rfl) (fun _ _ _ h => h) (Or.inl ⟨by rfl, ?_⟩) (by assumption) ?_
                · (intro w1 hSw; (try dsimp only at hSw); go_simp)
                simp only [List.getElem_toArray, List.getElem_cons_succ, List.getElem_cons_zero, Act.put, List.setIfInBounds_toArray, List.set_cons_zero, List.set_cons_succ]
                refine wpAnyH_take (i := 2) (v := .int .i64 0) rfl (by kernel_rfl) (by kernel_rfl) (by kernel_rfl) (fun _ _ _ h => h) (Or.inl ⟨by rfl, ?_⟩) (by assumption) ?_
                · (intro w1 hSw; (try dsimp only at hSw); go_simp)
                simp only [List.getElem_toArray, List.getElem_cons_succ, List.getElem_cons_zero, Act.put, List.setIfInBounds_toArray, List.set_cons_zero, List.set_cons_succ]
                refine wpAnyH_take (i := 3) (v := .bool true) rfl (by kernel_rfl) (by kernel_rfl) (by kernel_rfl) (fun _ _ _ h => h) (Or.inl ⟨by rfl, ?_⟩) (by assumption) ?_
                · (intro w1 hSw; (try dsimp only at hSw); go_simp)
                simp only [List.getElem_toArray, List.getElem_cons_succ, List.getElem_cons_zero, Act.put, List.setIfInBounds_toArray, List.set_cons_zero, List.set_cons_succ]
                refine wpAnyH_take (i := 4) (v := .bool true) rfl (by kernel_rfl) (by kernel_rfl) (by kernel_rfl) (fun _ _ _ h => h) (Or.inl ⟨by rfl, ?_⟩) (by assumption) ?_
                · (intro w1 hSw; (try dsimp only at hSw); go_simp)
                simp only [List.getElem_toArray, List.getElem_cons_succ, List.getElem_cons_zero, Act.put, List.setIfInBounds_toArray, List.set_cons_zero, List.set_cons_succ]
                refine wpAnyH_take (i := 5) (v := .bool true) rfl (by kernel_rfl) (by kernel_rfl) (by kernel_rfl) (fun _ _ _ h => h) (Or.inl ⟨by rfl, ?_⟩) (by assumption) ?_
                · (intro w1 hSw; (try dsimp only at hSw); go_simp)
                simp only [List.getElem_toArray, List.getElem_cons_succ, List.getElem_cons_zero, Act.put, List.setIfInBounds_toArray, List.set_cons_zero, List.set_cons_succ]
                refine wpAnyH_take (i := 6) (v := .int .i64 M) rfl (by kernel_rfl) (by kernel_rfl) (by kernel_rfl) (fun _ _ _ h => h) (Or.inl ⟨by rfl, ?_⟩) (by assumption) ?_
                · (intro w1 hSw; (try dsimp only at hSw); go_simp)
                simp only [List.getElem_toArray, List.getElem_cons_succ, List.getElem_cons_zero, Act.put, List.setIfInBounds_toArray, List.set_cons_zero, List.set_cons_succ]
                refine wpAnyH_take (i := 7) (v := .int .i64 M) rfl (by kernel_rfl) (by kernel_rfl) (by kernel_rfl) (fun _ _ _ h => h) (Or.inl ⟨by rfl, ?_⟩) (by assumption) ?_
                · (intro w1 hSw; (try dsimp only at hSw); go_simp)
                simp only [List.getElem_toArray, List.getElem_cons_succ, List.getElem_cons_zero, Act.put, List.setIfInBounds_toArray, List.set_cons_zero, List.set_cons_succ]
                refine wpAnyH_take (i := 8) (v := .bool true) rfl (by kernel_rfl) (by kernel_rfl) (by kernel_rfl) (fun _ _ _ h => h) (Or.inl ⟨by rfl, ?_⟩) (by assumption) ?_
                · (intro w1 hSw; (try dsimp only at hSw); go_simp)
                simp only [List.getElem_toArray, List.getElem_cons_succ, List.getElem_cons_zero, Act.put, List.setIfInBounds_toArray, List.set_cons_zero, List.set_cons_succ]
                refine wpAnyH_take (i := 9) (v := .bool true) rfl (by kernel_rfl) (by kernel_rfl) (by kernel_rfl) (fun _ _ _ h => h) (Or.inl ⟨by rfl, ?_⟩) (by assumption) ?_
                · (intro w1 hSw; (try dsimp only at hSw); go_simp)
                simp only [List.getElem_toArray, List.getElem_cons_succ, List.getElem_cons_zero, Act.put, List.setIfInBounds_toArray, List.set_cons_zero, List.set_cons_succ]
                refine wpAnyH_take (i := 10) (v := .bool true) rfl (by kernel_rfl) (by kernel_rfl) (by kernel_rfl) (fun _ _ _ h => h) (Or.inl ⟨by rfl, ?_⟩) (by assumption) ?_
                · (intro w1 hSw; (try dsimp only at hSw); go_simp)
                simp only [List.getElem_toArray, List.getElem_cons_succ, List.getElem_cons_zero, Act.put, List.setIfInBounds_toArray, List.set_cons_zero, List.set_cons_succ]
                refine wpAnyH_take (i := 11) (v := .agg #[.slice a5 L5 c5, .int .i64 T.lo, .int .i64 T.ne, .int .i64 T.ma]) rfl (by kernel_rfl) (by kernel_rfl) (by kernel_rfl) (fun _ _ _ h => h) (Or.inl ⟨by rfl, ?_⟩) (by assumption) ?_
                · (intro w1 hSw; (try dsimp only at hSw); go_simp)
                simp only [List.getElem_toArray, List.getElem_cons_succ, List.getElem_cons_zero, Act.put, List.setIfInBounds_toArray, List.set_cons_zero, List.set_cons_succ]
                refine wpAnyH_take (i := 13) (v := .agg #[.slice a6 L6 c6, .int .i64 Qs.lo, .int .i64 Qs.ne, .int .i64 Qs.ma]) rfl (by kernel_rfl) (by kernel_rfl) (by kernel_rfl) (fun _ _ _ h => h) (Or.inl ⟨by rfl, ?_⟩) (by assumption) ?_
                · (intro w1 hSw; (try dsimp only at hSw); go_simp)
                simp only [List.getElem_toArray, List.getElem_cons_succ, List.getElem_cons_zero, Act.put, List.setIfInBounds_toArray, List.set_cons_zero, List.set_cons_succ]
                refine wpAnyH_ready (rs := [12]) (by kernel_rfl) (by simp) ?_
                refine AllReadyH.cons (o := _) rfl (fun K hK => ?_) AllReadyH.nil
                go_simp
                refine (as13_any _ T u1 HSu1.out.r (by rw [HTq.out]; exact HQl.out)).mono ?_
                rintro e u2 ⟨v2, rfl, hu2, hb2⟩
                have HBu2 : Hid (Below W.heap.size W u2) := HBu1.out.trans (hb2.mono HBu1.out.size)
                have HQu2 : Hid (UR u2 (.slice a6 L6 c6) Qs.ru) := HQu1.out.below hb2
                have HXu2 : Hid (u2.heap[P1]? = some (.cells #[.slice a5 L5 c5, .int .i64 T.lo, .int .i64 T.ne, .int .i64 T.ma] 33)) := (hb2.block _ hlu1.1).trans HXu1.out
                have HYu2 : Hid (u2.heap[P2]? = some (.cells #[.slice a6 L6 c6, .int .i64 Qs.lo, .int .i64 Qs.ne, .int .i64 Qs.ma] 38)) := (hb2.block _ hlu1.2).trans HYu1.out
                have HGu2 : Hid ((u2.cell? ⟨P1, 0, none⟩ = some (.slice a5 L5 c5) ∧ u2.cell? ⟨P1, 1, none⟩ = some (.int .i64 T.lo) ∧ u2.cell? ⟨P1, 2, none⟩ = some (.int .i64 T.ne) ∧ u2.cell? ⟨P1, 3, none⟩ = some (.int .i64 T.ma)) ∧ (u2.cell? ⟨P2, 0, none⟩ = some (.slice a6 L6 c6) ∧ u2.cell? ⟨P2, 1, none⟩ = some (.int .i64 Qs.lo) ∧ u2.cell? ⟨P2, 2, none⟩ = some (.int .i64 Qs.ne) ∧ u2.cell? ⟨P2, 3, none⟩ = some (.int .i64 Qs.ma))) := ⟨four13 HXu2.out, four13 HYu2.out⟩
                have hlu2 : P1 < u2.heap.size ∧ P2 < u2.heap.size := ⟨(Array.getElem?_eq_some_iff.1 HXu2.out).1, (Array.getElem?_eq_some_iff.1 HYu2.out).1⟩
                obtain ⟨ga, gc, hv2, _⟩ := hu2.form
                rw [HL5.out] at hv2
                subst hv2
                have HVu2 : Hid (RuR u2 (.slice ga L5 gc) T.ru) := hu2
                clear hb2 hu2
                go_simp
                refine hK.out _ _ ?_ (fun hHeld => ?_)
                · exact HGu2.out
                clear hK K
                refine wpAnyH_ready (rs := [14]) (by kernel_rfl) (by simp) ?_
                refine AllReadyH.cons (o := _) rfl (fun K hK => ?_) AllReadyH.nil
                go_simp
                refine (same13_any _ _ T.ru Qs.ru T.lo T.ne T.ma Qs.lo Qs.ne Qs.ma u2 HVu2.out HQu2.out.r).mono ?_
                rintro e u3 ⟨r, rfl, hr, hb3⟩
                have hr' : r = true := hr (by rw [HTq.out]; exact ⟨rfl, rfl, rfl, rfl⟩)
                subst hr'
                have HBu3 : Hid (Below W.heap.size W u3) := HBu2.out.trans (hb3.mono HBu2.out.size)
                have HGu3 : Hid ((u3.cell? ⟨P1, 0, none⟩ = some (.slice a5 L5 c5) ∧ u3.cell? ⟨P1, 1, none⟩ = some (.int .i64 T.lo) ∧ u3.cell? ⟨P1, 2, none⟩ = some (.int .i64 T.ne) ∧ u3.cell? ⟨P1, 3, none⟩ = some (.int .i64 T.ma)) ∧ (u3.cell? ⟨P2, 0, none⟩ = some (.slice a6 L6 c6) ∧ u3.cell? ⟨P2, 1, none⟩ = some (.int .i64 Qs.lo) ∧ u3.cell? ⟨P2, 2, none⟩ = some (.int .i64 Qs.ne) ∧ u3.cell? ⟨P2, 3, none⟩ = some (.int .i64 Qs.ma))) := ⟨four13 ((hb3.block _ hlu2.1).trans HXu2.out), four13 ((hb3.block _ hlu2.2).trans HYu2.out)⟩
                clear hb3 hr
                go_simp
                refine hK.out _ _ ?_ (fun hHeld => ?_)
                · exact HGu3.out
                clear hK K
                refine wpAnyH_take (i := 15) (v := .bool true) rfl (by kernel_rfl) (by kernel_rfl) (by kernel_rfl) (fun _ _ _ h => h) (Or.inl ⟨by rfl, ?_⟩) (by assumption) ?_
                · (intro w1 hSw; (try dsimp only at hSw); go_simp)
                simp only [List.getElem_toArray, List.getElem_cons_succ, List.getElem_cons_zero, Act.put, List.setIfInBounds_toArray, List.set_cons_zero, List.set_cons_succ]
                refine wpAnyH_ready (rs := [16]) (by kernel_rfl) (by simp) ?_
                refine AllReadyH.cons (o := _) rfl (fun K hK => ?_) AllReadyH.nil
                go_simp
                refine hK.out _ _ ?_ (fun hHeld => ?_)
                · exact HGu3.out
                clear hK K
                refine wpAnyH_done (by kernel_rfl) ?_ _
                refine NoPanic.normal ?_
                go_wp2_with fail
                go_ret
                exact ⟨rfl, HBu3.out⟩
            · have h2' : ¬ A = n := h2
              have h2'' : (A != n) = true := by simpa using h2
              have hR : R = (none, 114) := by rw [HR.out, if_neg (by simp), if_pos (.inr (.inl h2))]
              have hG : G = 114 := by rw [HG.out, hR]
              have hM : M = 0 := by rw [HM.out, hR]; rfl
              have hT : T = stZ := by rw [HT.out, hR]; rfl
              subst hG
              subst hM
              clear HG HM HT HR hR
              go_wp2_with fail
              refine (alive13_any w9).mono ?_
              rintro e w10 ⟨rfl, hb10⟩
              have HB10 : Hid (Below W.heap.size W w10) := HBW9.out.trans (hb10.mono HBW9.out.size)
              have hl1 : P1 < w9.heap.size := (Array.getElem?_eq_some_iff.1 HX9.out).1
              obtain ⟨c0, c1, c2, c3⟩ := four13 ((hb10.block _ hl1).trans HX9.out)
              have HS10 : Hid (UR w10 (.slice a5 L5 c5) T.ru) := HS9.out.below hb10
              have HTz : Hid (T = stZ) := hT
              clear hb10 hT
              go_wp2_with fail
              refine (as13_any _ T w10 HS10.out.r (by rw [HTz.out]; simp [stZ])).mono ?_
              rintro e w11 ⟨v11, rfl, hu11, hb11⟩
              have HB11 : Hid (Below W.heap.size W w11) := HB10.out.trans (hb11.mono HB10.out.size)
              obtain ⟨a11, c11, hv11, _⟩ := hu11.form
              subst hv11
              rw [HL5.out] at hu11 ⊢
              have hSm := same13_any _ (.slice none 0 0) T.ru [] T.lo T.ne T.ma 0 0 0 w11 hu11 (ur_nil w11).r
              have HSm : Hid (Calls Tryz.prog 15 #[.agg #[.slice a11 L5 c11, .int .i64 T.lo, .int .i64 T.ne, .int .i64 T.ma], .agg #[.slice none 0 0, .int .i64 0, .int .i64 0, .int .i64 0]] w11 _) := hSm
              clear hSm hu11 hb11
              go_wp2_with fail
              refine HSm.out.mono ?_
              rintro e w12 ⟨r, rfl, hr, hb12⟩
              have hr' : r = true := hr (by rw [HTz.out]; exact ⟨rfl, rfl, rfl, rfl⟩)
              subst hr'
              have HB12 : Hid (Below W.heap.size W w12) := HB11.out.trans (hb12.mono HB11.out.size)
              clear hb12 hr
              go_wp2_with fail
              go_ret
              exact ⟨rfl, HB12.out⟩
        | true =>
          have HNn : Hid (sfName NM = true) := by unfold Hid; rw [HNM.out]; exact man_name hno
          have HNc : Hid (curN ≠ NM) := by unfold Hid; rw [HNM.out]; exact cur_ne hno
          have HNb : Hid (bytesBefore NM curN = false) := by unfold Hid; rw [HNM.out]; exact bef_cur hno
          have HNl : Hid (NM.length ≤ maxLen) := by unfold Hid; rw [HNM.out]; have := man_len (n := n); unfold maxLen; omega
          obtain ⟨x0, xr, hNe⟩ : ∃ x r, NM = x :: r := by obtain ⟨r, e⟩ := man_front hno; exact ⟨_, r, HNM.out.trans e⟩
          have hne : NM.isEmpty = false := by rw [hNe]; rfl
          have HCr : Hid (Calls Tryz.prog 9 #[.pointer (some ⟨g0, 0, none⟩), .string ⟨NM.toArray⟩] w4 _) := HF4.out.create NM HNl.out (by simp [ld2])
          have HNe : Hid (NM = x0 :: xr) := hNe
          clear hNe
          go_wp2_with fail
          refine HCr.out.mono ?_
          clear HCr
          rintro e w5 ⟨rfl, hf5⟩
          rw [ld_cr2 HNn.out HNc.out HNb.out] at hf5
          have HF5 : Hid (FsW W w5 (.pointer (some ⟨g0, 0, none⟩)) (ld3 a0 NM [])) := hf5
          rw [ld_cr2 HNn.out HNc.out HNb.out]
          clear hf5 HF4
          obtain ⟨la, lc, hv1, _⟩ := HR1.out.form
          subst hv1
          obtain ⟨LL, HLL⟩ : ∃ k, Hid (a1.length = k) := ⟨_, rfl⟩
          have hAp := HF5.out.append NM HNl.out _ a1 HR1.out
          rw [HLL.out] at hAp ⊢
          have HAp : Hid (Calls Tryz.prog 10 #[.pointer (some ⟨g0, 0, none⟩), .string ⟨NM.toArray⟩, .slice la LL lc] w5 _) := hAp
          clear hAp
          go_wp2_with fail
          refine HAp.out.mono ?_
          clear HAp hne
          rintro e w6 ⟨rfl, hf6⟩
          rw [ld_ap2 HNc.out H0l.out H1l.out] at hf6
          rw [ld_ap2 HNc.out H0l.out H1l.out]
          have HF6 : Hid (FsW W w6 (.pointer (some ⟨g0, 0, none⟩)) (ld3 a0 NM a1)) := hf6
          clear hf6 HF5
          obtain ⟨v1, Hv1⟩ := hid_ex (Value.slice la LL lc)
          rw [HLL.out] at HR1
          rw [← Hv1.out] at HR1 ⊢
          have HF : Hid (FsW W w6 (.pointer (some ⟨g0, 0, none⟩)) (ldSt true n a0 a1)) := by
            unfold Hid ldSt
            rw [if_pos hno]
            rw [HNM.out] at HF6
            exact HF6.out
          clear HF6 HNM hno w4
          obtain ⟨w4, Hw4⟩ := hid_ex w6
          rw [← Hw4.out] at HF ⊢
          have hLd := HF.out.load (fun nm => ld_len H0l.out H1l.out nm) HTb.out
          rw [ld_tell] at hLd
          obtain ⟨R, HR⟩ := hid_ex (if (true : Bool) = false then ((none, 4) : Option (St × Int) × Int) else if (ptF a0).getD 0 = 0 ∨ (ptF a0).getD 0 ≠ n ∨ (rpF (fmS a1) st0 false).2 = false then (none, 114) else (some ((rpF (fmS a1) st0 false).1, n), 0))
          rw [← HR.out] at hLd
          have HLd : Hid (Calls Tryz.prog 12 #[.pointer (some ⟨g0, 0, none⟩)] w4 (LdP R w4)) := hLd
          have HBW4 : Hid (Below W.heap.size W w4) := HF.out.b
          clear hLd
          go_wp2_with fail
          refine HLd.out.mono ?_
          clear HLd
          rintro e w5 ⟨v5, rfl, hu5, hb5⟩
          obtain ⟨a5, c5, hv5, _⟩ := hu5.r.form
          subst hv5
          obtain ⟨T, HT⟩ := hid_ex (ldS R)
          obtain ⟨M, HM⟩ := hid_ex (ldN R)
          obtain ⟨G, HG⟩ := hid_ex R.2
          rw [← HT.out] at hu5 ⊢
          rw [← HM.out, ← HG.out]
          obtain ⟨L5, HL5⟩ : ∃ k, Hid (T.ru.length = k) := ⟨_, rfl⟩
          rw [HL5.out] at hu5 ⊢
          have HU5 : Hid (UR w5 (.slice a5 L5 c5) T.ru) := hu5
          have HBW5 : Hid (Below W.heap.size W w5) := HBW4.out.trans (hb5.mono HBW4.out.size)
          have HOn5 : Hid (([.slice a5 L5 c5, .int .i64 T.lo, .int .i64 T.ne, .int .i64 T.ma] : List Value).toArray.all (·.oneCell') = true) := by unfold Hid; kernel_rfl
          clear hu5 hb5
          go_wp2_with (refine stop_store 33 _ _ rfl ?_)
          refine Stop.of ?_
          refine wpList_storeN rfl _ _ _ rfl w5.heap.size 0 [.slice a5 L5 c5, .int .i64 T.lo, .int .i64 T.ne, .int .i64 T.ma] rfl rfl _ _ (heap_alloc_new _ _) (by simp) (by kernel_rfl) HOn5.out ?_
          intro w6 hw6
          obtain ⟨hb6, hx6, hz6⟩ := stW_nw hw6 (by simp)
          obtain ⟨P1, HP1⟩ := hid_ex w5.heap.size
          rw [← HP1.out] at hx6 hz6 ⊢
          have HBW6 : Hid (Below W.heap.size W w6) := HBW5.out.trans (hb6.mono HBW5.out.size)
          have HU6 : Hid (UR w6 (.slice a5 L5 c5) T.ru) := HU5.out.below hb6
          have HX6 : Hid (w6.heap[P1]? = some (.cells #[.slice a5 L5 c5, .int .i64 T.lo, .int .i64 T.ne, .int .i64 T.ma] 33)) := hx6
          have hLg := refLog_any v1 a1 H1l.out w6 (HR1.out.below HBW6.out)
          obtain ⟨Q, HQ⟩ := hid_ex (rpF (fmS a1) st0 false)
          rw [← HQ.out] at hLg HR
          obtain ⟨la, lc, hv1, _⟩ := HR1.out.form
          subst hv1
          obtain ⟨LL, HLL⟩ : ∃ k, Hid (a1.length = k) := ⟨_, rfl⟩
          rw [HLL.out] at hLg ⊢
          have HLg : Hid (Calls Tryz.prog 13 #[.slice la LL lc] w6 (RpP Q w6)) := hLg
          clear hw6 hb6 hx6 hLg HU5
          go_wp2_with fail
          refine HLg.out.mono ?_
          clear HLg
          rintro e w7 ⟨v7, rfl, hu7, hb7, _⟩
          obtain ⟨a6, c6, hv7, _⟩ := hu7.r.form
          subst hv7
          obtain ⟨L6, HL6⟩ : ∃ k, Hid (Q.1.ru.length = k) := ⟨_, rfl⟩
          rw [HL6.out] at hu7 ⊢
          have HU7 : Hid (UR w7 (.slice a6 L6 c6) Q.1.ru) := hu7
          have HS7 : Hid (UR w7 (.slice a5 L5 c5) T.ru) := HU6.out.below hb7
          have HX7 : Hid (w7.heap[P1]? = some (.cells #[.slice a5 L5 c5, .int .i64 T.lo, .int .i64 T.ne, .int .i64 T.ma] 33)) := (hb7.block _ hz6).trans HX6.out
          have hz7 : P1 < w7.heap.size := Nat.lt_of_lt_of_le hz6 hb7.size
          have HBW7 : Hid (Below W.heap.size W w7) := HBW6.out.trans (hb7.mono HBW6.out.size)
          have HOn6 : Hid (([.slice a6 L6 c6, .int .i64 Q.1.lo, .int .i64 Q.1.ne, .int .i64 Q.1.ma] : List Value).toArray.all (·.oneCell') = true) := by unfold Hid; kernel_rfl
          clear hu7 hb7 HU6 HX6
          go_wp2_with (refine stop_store 38 _ _ rfl ?_)
          refine Stop.of ?_
          refine wpList_storeN rfl _ _ _ rfl w7.heap.size 0 [.slice a6 L6 c6, .int .i64 Q.1.lo, .int .i64 Q.1.ne, .int .i64 Q.1.ma] rfl rfl _ _ (heap_alloc_new _ _) (by simp) (by kernel_rfl) HOn6.out ?_
          intro w8 hw8
          obtain ⟨hb8, hx8, hz8⟩ := stW_nw hw8 (by simp)
          obtain ⟨P2, HP2⟩ := hid_ex w7.heap.size
          rw [← HP2.out] at hx8 hz8 ⊢
          have HBW8 : Hid (Below W.heap.size W w8) := HBW7.out.trans (hb8.mono HBW7.out.size)
          have HU8 : Hid (UR w8 (.slice a6 L6 c6) Q.1.ru) := HU7.out.below hb8
          have HS8 : Hid (UR w8 (.slice a5 L5 c5) T.ru) := HS7.out.below hb8
          have HX8 : Hid (w8.heap[P1]? = some (.cells #[.slice a5 L5 c5, .int .i64 T.lo, .int .i64 T.ne, .int .i64 T.ma] 33)) := (hb8.block _ hz7).trans HX7.out
          have HY8 : Hid (w8.heap[P2]? = some (.cells #[.slice a6 L6 c6, .int .i64 Q.1.lo, .int .i64 Q.1.ne, .int .i64 Q.1.ma] 38)) := hx8
          clear hw8 hb8 hx8 HU7 HS7 HX7
          have hPt := refPointed_any v0 a0 (Nat.le_trans H0l.out (by decide)) w8 (HR0.out.below HBW8.out)
          obtain ⟨A, HA⟩ := hid_ex ((ptF a0).getD 0)
          rw [← HA.out] at hPt HR
          obtain ⟨pa, pc, hv0, _⟩ := HR0.out.form
          subst hv0
          obtain ⟨PL, HPL⟩ : ∃ k, Hid (a0.length = k) := ⟨_, rfl⟩
          rw [HPL.out] at hPt ⊢
          have HPt : Hid (Calls Tryz.prog 14 #[.slice pa PL pc] w8 _) := hPt
          clear hPt
          go_wp2_with fail
          refine HPt.out.mono ?_
          clear HPt
          rintro e w9 ⟨rfl, hb9⟩
          have hl1 : P1 < w8.heap.size := (Array.getElem?_eq_some_iff.1 HX8.out).1
          have hl2 : P2 < w8.heap.size := (Array.getElem?_eq_some_iff.1 HY8.out).1
          have HBW9 : Hid (Below W.heap.size W w9) := HBW8.out.trans (hb9.mono HBW8.out.size)
          have HU9 : Hid (UR w9 (.slice a6 L6 c6) Q.1.ru) := HU8.out.below hb9
          have HS9 : Hid (UR w9 (.slice a5 L5 c5) T.ru) := HS8.out.below hb9
          have HX9 : Hid (w9.heap[P1]? = some (.cells #[.slice a5 L5 c5, .int .i64 T.lo, .int .i64 T.ne, .int .i64 T.ma] 33)) := (hb9.block _ hl1).trans HX8.out
          have HY9 : Hid (w9.heap[P2]? = some (.cells #[.slice a6 L6 c6, .int .i64 Q.1.lo, .int .i64 Q.1.ne, .int .i64 Q.1.ma] 38)) := (hb9.block _ hl2).trans HY8.out
          clear hb9 HU8 HS8 HX8 HY8 hl1 hl2
          have HQl : Hid (Q.1.ru.length ≤ 100000) := by unfold Hid; rw [HQ.out]; exact rp_len a1
          obtain ⟨Qs, Qb⟩ := Q
          simp only at *
          by_cases h1 : A = 0
          · subst h1
            have hR : R = (none, 114) := by rw [HR.out, if_neg (by simp), if_pos (.inl rfl)]
            have hG : G = 114 := by rw [HG.out, hR]
            have hM : M = 0 := by rw [HM.out, hR]; rfl
            have hT : T = stZ := by rw [HT.out, hR]; rfl
            subst hG
            subst hM
            clear HG HM HT HR hR
            go_wp2_with fail
            refine (alive13_any w9).mono ?_
            rintro e w10 ⟨rfl, hb10⟩
            have HB10 : Hid (Below W.heap.size W w10) := HBW9.out.trans (hb10.mono HBW9.out.size)
            have hl1 : P1 < w9.heap.size := (Array.getElem?_eq_some_iff.1 HX9.out).1
            obtain ⟨c0, c1, c2, c3⟩ := four13 ((hb10.block _ hl1).trans HX9.out)
            have HS10 : Hid (UR w10 (.slice a5 L5 c5) T.ru) := HS9.out.below hb10
            have HTz : Hid (T = stZ) := hT
            clear hb10 hT
            go_wp2_with fail
            refine (as13_any _ T w10 HS10.out.r (by rw [HTz.out]; simp [stZ])).mono ?_
            rintro e w11 ⟨v11, rfl, hu11, hb11⟩
            have HB11 : Hid (Below W.heap.size W w11) := HB10.out.trans (hb11.mono HB10.out.size)
            obtain ⟨a11, c11, hv11, _⟩ := hu11.form
            subst hv11
            rw [HL5.out] at hu11 ⊢
            have hSm := same13_any _ (.slice none 0 0) T.ru [] T.lo T.ne T.ma 0 0 0 w11 hu11 (ur_nil w11).r
            have HSm : Hid (Calls Tryz.prog 15 #[.agg #[.slice a11 L5 c11, .int .i64 T.lo, .int .i64 T.ne, .int .i64 T.ma], .agg #[.slice none 0 0, .int .i64 0, .int .i64 0, .int .i64 0]] w11 _) := hSm
            clear hSm hu11 hb11
            go_wp2_with fail
            refine HSm.out.mono ?_
            rintro e w12 ⟨r, rfl, hr, hb12⟩
            have hr' : r = true := hr (by rw [HTz.out]; exact ⟨rfl, rfl, rfl, rfl⟩)
            subst hr'
            have HB12 : Hid (Below W.heap.size W w12) := HB11.out.trans (hb12.mono HB11.out.size)
            clear hb12 hr
            go_wp2_with fail
            go_ret
            exact ⟨rfl, HB12.out⟩
          · by_cases h2 : A = n
            · cases Qb with
              | false =>
                have hR : R = (none, 114) := by rw [HR.out, if_neg (by simp), if_pos (.inr (.inr rfl))]
                have hG : G = 114 := by rw [HG.out, hR]
                have hM : M = 0 := by rw [HM.out, hR]; rfl
                have hT : T = stZ := by rw [HT.out, hR]; rfl
                subst hG
                subst hM
                clear HG HM HT HR hR
                go_wp2_with fail
                refine (alive13_any w9).mono ?_
                rintro e w10 ⟨rfl, hb10⟩
                have HB10 : Hid (Below W.heap.size W w10) := HBW9.out.trans (hb10.mono HBW9.out.size)
                have hl1 : P1 < w9.heap.size := (Array.getElem?_eq_some_iff.1 HX9.out).1
                obtain ⟨c0, c1, c2, c3⟩ := four13 ((hb10.block _ hl1).trans HX9.out)
                have HS10 : Hid (UR w10 (.slice a5 L5 c5) T.ru) := HS9.out.below hb10
                have HTz : Hid (T = stZ) := hT
                clear hb10 hT
                go_wp2_with fail
                refine (as13_any _ T w10 HS10.out.r (by rw [HTz.out]; simp [stZ])).mono ?_
                rintro e w11 ⟨v11, rfl, hu11, hb11⟩
                have HB11 : Hid (Below W.heap.size W w11) := HB10.out.trans (hb11.mono HB10.out.size)
                obtain ⟨a11, c11, hv11, _⟩ := hu11.form
                subst hv11
                rw [HL5.out] at hu11 ⊢
                have hSm := same13_any _ (.slice none 0 0) T.ru [] T.lo T.ne T.ma 0 0 0 w11 hu11 (ur_nil w11).r
                have HSm : Hid (Calls Tryz.prog 15 #[.agg #[.slice a11 L5 c11, .int .i64 T.lo, .int .i64 T.ne, .int .i64 T.ma], .agg #[.slice none 0 0, .int .i64 0, .int .i64 0, .int .i64 0]] w11 _) := hSm
                clear hSm hu11 hb11
                go_wp2_with fail
                refine HSm.out.mono ?_
                rintro e w12 ⟨r, rfl, hr, hb12⟩
                have hr' : r = true := hr (by rw [HTz.out]; exact ⟨rfl, rfl, rfl, rfl⟩)
                subst hr'
                have HB12 : Hid (Below W.heap.size W w12) := HB11.out.trans (hb12.mono HB11.out.size)
                clear hb12 hr
                go_wp2_with fail
                go_ret
                exact ⟨rfl, HB12.out⟩
              | true =>
                have hR : R = (some (Qs, n), 0) := by rw [HR.out, if_neg (by simp), if_neg (by simp; exact ⟨h1, h2⟩)]
                have hG : G = 0 := by rw [HG.out, hR]
                have hM : M = n := by rw [HM.out, hR]; rfl
                have hT : T = Qs := by rw [HT.out, hR]; rfl
                have HAn : Hid (A = n) := h2
                subst hG
                subst hM
                have HTq : Hid (T = Qs) := hT
                clear HG HM HT HR hR hT
                obtain ⟨u0, HU0⟩ := hid_ex w9.drew
                have hbu : Below w9.heap.size w9 u0 := by rw [HU0.out]; exact (Below.refl _ _).drew
                have hl1 : P1 < w9.heap.size := (Array.getElem?_eq_some_iff.1 HX9.out).1
                have hl2 : P2 < w9.heap.size := (Array.getElem?_eq_some_iff.1 HY9.out).1
                have HBu0 : Hid (Below W.heap.size W u0) := HBW9.out.trans (hbu.mono HBW9.out.size)
                have HSu0 : Hid (UR u0 (.slice a5 L5 c5) T.ru) := HS9.out.below hbu
                have HQu0 : Hid (UR u0 (.slice a6 L6 c6) Qs.ru) := HU9.out.below hbu
                have HXu0 : Hid (u0.heap[P1]? = some (.cells #[.slice a5 L5 c5, .int .i64 T.lo, .int .i64 T.ne, .int .i64 T.ma] 33)) := (hbu.block _ hl1).trans HX9.out
                have HYu0 : Hid (u0.heap[P2]? = some (.cells #[.slice a6 L6 c6, .int .i64 Qs.lo, .int .i64 Qs.ne, .int .i64 Qs.ma] 38)) := (hbu.block _ hl2).trans HY9.out
                have HGu0 : Hid ((u0.cell? ⟨P1, 0, none⟩ = some (.slice a5 L5 c5) ∧ u0.cell? ⟨P1, 1, none⟩ = some (.int .i64 T.lo) ∧ u0.cell? ⟨P1, 2, none⟩ = some (.int .i64 T.ne) ∧ u0.cell? ⟨P1, 3, none⟩ = some (.int .i64 T.ma)) ∧ (u0.cell? ⟨P2, 0, none⟩ = some (.slice a6 L6 c6) ∧ u0.cell? ⟨P2, 1, none⟩ = some (.int .i64 Qs.lo) ∧ u0.cell? ⟨P2, 2, none⟩ = some (.int .i64 Qs.ne) ∧ u0.cell? ⟨P2, 3, none⟩ = some (.int .i64 Qs.ma))) := ⟨four13 HXu0.out, four13 HYu0.out⟩
                have hlu0 : P1 < u0.heap.size ∧ P2 < u0.heap.size := ⟨(Array.getElem?_eq_some_iff.1 HXu0.out).1, (Array.getElem?_eq_some_iff.1 HYu0.out).1⟩
                clear hbu
                go_wp2_with fail
                refine wp_region_noPanic ?_
                refine wp_region_held_drew (S := fun w' => (w'.cell? ⟨P1, 0, none⟩ = some (.slice a5 L5 c5) ∧ w'.cell? ⟨P1, 1, none⟩ = some (.int .i64 T.lo) ∧ w'.cell? ⟨P1, 2, none⟩ = some (.int .i64 T.ne) ∧ w'.cell? ⟨P1, 3, none⟩ = some (.int .i64 T.ma)) ∧ (w'.cell? ⟨P2, 0, none⟩ = some (.slice a6 L6 c6) ∧ w'.cell? ⟨P2, 1, none⟩ = some (.int .i64 Qs.lo) ∧ w'.cell? ⟨P2, 2, none⟩ = some (.int .i64 Qs.ne) ∧ w'.cell? ⟨P2, 3, none⟩ = some (.int .i64 Qs.ma))) (by kernel_rfl) ?_ (fun hHeld => ?_)
                · (rw [← HU0.out]; exact HGu0.out)
                rw [← HU0.out]
                clear HU0
                refine wpAnyH_ready (rs := [0]) (by kernel_rfl) (by simp) ?_
                refine AllReadyH.cons (o := _) rfl (fun K hK => ?_) AllReadyH.nil
                go_simp
                refine (alive13_any _).mono ?_
                rintro e u1 ⟨rfl, hb1⟩
                have HBu1 : Hid (Below W.heap.size W u1) := HBu0.out.trans (hb1.mono HBu0.out.size)
                have HSu1 : Hid (UR u1 (.slice a5 L5 c5) T.ru) := HSu0.out.below hb1
                have HQu1 : Hid (UR u1 (.slice a6 L6 c6) Qs.ru) := HQu0.out.below hb1
                have HXu1 : Hid (u1.heap[P1]? = some (.cells #[.slice a5 L5 c5, .int .i64 T.lo, .int .i64 T.ne, .int .i64 T.ma] 33)) := (hb1.block _ hlu0.1).trans HXu0.out
                have HYu1 : Hid (u1.heap[P2]? = some (.cells #[.slice a6 L6 c6, .int .i64 Qs.lo, .int .i64 Qs.ne, .int .i64 Qs.ma] 38)) := (hb1.block _ hlu0.2).trans HYu0.out
                have HGu1 : Hid ((u1.cell? ⟨P1, 0, none⟩ = some (.slice a5 L5 c5) ∧ u1.cell? ⟨P1, 1, none⟩ = some (.int .i64 T.lo) ∧ u1.cell? ⟨P1, 2, none⟩ = some (.int .i64 T.ne) ∧ u1.cell? ⟨P1, 3, none⟩ = some (.int .i64 T.ma)) ∧ (u1.cell? ⟨P2, 0, none⟩ = some (.slice a6 L6 c6) ∧ u1.cell? ⟨P2, 1, none⟩ = some (.int .i64 Qs.lo) ∧ u1.cell? ⟨P2, 2, none⟩ = some (.int .i64 Qs.ne) ∧ u1.cell? ⟨P2, 3, none⟩ = some (.int .i64 Qs.ma))) := ⟨four13 HXu1.out, four13 HYu1.out⟩
                have hlu1 : P1 < u1.heap.size ∧ P2 < u1.heap.size := ⟨(Array.getElem?_eq_some_iff.1 HXu1.out).1, (Array.getElem?_eq_some_iff.1 HYu1.out).1⟩
                clear hb1
                go_simp
                refine hK.out _ _ ?_ (fun hHeld => ?_)
                · exact HGu1.out
                clear hK K
                refine wpAnyH_take (i := 1) (v := .bool true) rfl (by kernel_rfl) (by kernel_rfl) (by kernel_rfl) (fun _ _ _ h => h) (Or.inl ⟨by rfl, ?_⟩) (by assumption) ?_
                · (intro w1 hSw; (try dsimp only at hSw); go_simp)
                simp only [List.getElem_toArray, List.getElem_cons_succ, List.getElem_cons_zero, Act.put, List.setIfInBounds_toArray, List.set_cons_zero, List.set_cons_succ]
                refine wpAnyH_take (i := 2) (v := .int .i64 0) rfl (by kernel_rfl) (by kernel_rfl) (by kernel_rfl) (fun _ _ _ h => h) (Or.inl ⟨by rfl, ?_⟩) (by assumption) ?_
                · (intro w1 hSw; (try dsimp only at hSw); go_simp)
                simp only [List.getElem_toArray, List.getElem_cons_succ, List.getElem_cons_zero, Act.put, List.setIfInBounds_toArray, List.set_cons_zero, List.set_cons_succ]
                refine wpAnyH_take (i := 3) (v := .bool true) rfl (by kernel_rfl) (by kernel_rfl) (by kernel_rfl) (fun _ _ _ h => h) (Or.inl ⟨by rfl, ?_⟩) (by assumption) ?_
                · (intro w1 hSw; (try dsimp only at hSw); go_simp)
                simp only [List.getElem_toArray, List.getElem_cons_succ, List.getElem_cons_zero, Act.put, List.setIfInBounds_toArray, List.set_cons_zero, List.set_cons_succ]
                refine wpAnyH_take (i := 4) (v := .bool true) rfl (by kernel_rfl) (by kernel_rfl) (by kernel_rfl) (fun _ _ _ h => h) (Or.inl ⟨by rfl, ?_⟩) (by assumption) ?_
                · (intro w1 hSw; (try dsimp only at hSw); go_simp)
                simp only [List.getElem_toArray, List.getElem_cons_succ, List.getElem_cons_zero, Act.put, List.setIfInBounds_toArray, List.set_cons_zero, List.set_cons_succ]
                refine wpAnyH_take (i := 5) (v := .bool true) rfl (by kernel_rfl) (by kernel_rfl) (by kernel_rfl) (fun _ _ _ h => h) (Or.inl ⟨by rfl, ?_⟩) (by assumption) ?_
                · (intro w1 hSw; (try dsimp only at hSw); go_simp)
                simp only [List.getElem_toArray, List.getElem_cons_succ, List.getElem_cons_zero, Act.put, List.setIfInBounds_toArray, List.set_cons_zero, List.set_cons_succ]
                refine wpAnyH_take (i := 6) (v := .int .i64 M) rfl (by kernel_rfl) (by kernel_rfl) (by kernel_rfl) (fun _ _ _ h => h) (Or.inl ⟨by rfl, ?_⟩) (by assumption) ?_
                · (intro w1 hSw; (try dsimp only at hSw); go_simp)
                simp only [List.getElem_toArray, List.getElem_cons_succ, List.getElem_cons_zero, Act.put, List.setIfInBounds_toArray, List.set_cons_zero, List.set_cons_succ]
                refine wpAnyH_take (i := 7) (v := .int .i64 M) rfl (by kernel_rfl) (by kernel_rfl) (by kernel_rfl) (fun _ _ _ h => h) (Or.inl ⟨by rfl, ?_⟩) (by assumption) ?_
                · (intro w1 hSw; (try dsimp only at hSw); go_simp)
                simp only [List.getElem_toArray, List.getElem_cons_succ, List.getElem_cons_zero, Act.put, List.setIfInBounds_toArray, List.set_cons_zero, List.set_cons_succ]
                refine wpAnyH_take (i := 8) (v := .bool true) rfl (by kernel_rfl) (by kernel_rfl) (by kernel_rfl) (fun _ _ _ h => h) (Or.inl ⟨by rfl, ?_⟩) (by assumption) ?_
                · (intro w1 hSw; (try dsimp only at hSw); go_simp)
                simp only [List.getElem_toArray, List.getElem_cons_succ, List.getElem_cons_zero, Act.put, List.setIfInBounds_toArray, List.set_cons_zero, List.set_cons_succ]
                refine wpAnyH_take (i := 9) (v := .bool true) rfl (by kernel_rfl) (by kernel_rfl) (by kernel_rfl) (fun _ _ _ h => h) (Or.inl ⟨by rfl, ?_⟩) (by assumption) ?_
                · (intro w1 hSw; (try dsimp only at hSw); go_simp)
                simp only [List.getElem_toArray, List.getElem_cons_succ, List.getElem_cons_zero, Act.put, List.setIfInBounds_toArray, List.set_cons_zero, List.set_cons_succ]
                refine wpAnyH_take (i := 10) (v := .bool true) rfl (by kernel_rfl) (by kernel_rfl) (by kernel_rfl) (fun _ _ _ h => h) (Or.inl ⟨by rfl, ?_⟩) (by assumption) ?_
                · (intro w1 hSw; (try dsimp only at hSw); go_simp)
                simp only [List.getElem_toArray, List.getElem_cons_succ, List.getElem_cons_zero, Act.put, List.setIfInBounds_toArray, List.set_cons_zero, List.set_cons_succ]
                refine wpAnyH_take (i := 11) (v := .agg #[.slice a5 L5 c5, .int .i64 T.lo, .int .i64 T.ne, .int .i64 T.ma]) rfl (by kernel_rfl) (by kernel_rfl) (by kernel_rfl) (fun _ _ _ h => h) (Or.inl ⟨by rfl, ?_⟩) (by assumption) ?_
                · (intro w1 hSw; (try dsimp only at hSw); go_simp)
                simp only [List.getElem_toArray, List.getElem_cons_succ, List.getElem_cons_zero, Act.put, List.setIfInBounds_toArray, List.set_cons_zero, List.set_cons_succ]
                refine wpAnyH_take (i := 13) (v := .agg #[.slice a6 L6 c6, .int .i64 Qs.lo, .int .i64 Qs.ne, .int .i64 Qs.ma]) rfl (by kernel_rfl) (by kernel_rfl) (by kernel_rfl) (fun _ _ _ h => h) (Or.inl ⟨by rfl, ?_⟩) (by assumption) ?_
                · (intro w1 hSw; (try dsimp only at hSw); go_simp)
                simp only [List.getElem_toArray, List.getElem_cons_succ, List.getElem_cons_zero, Act.put, List.setIfInBounds_toArray, List.set_cons_zero, List.set_cons_succ]
                refine wpAnyH_ready (rs := [12]) (by kernel_rfl) (by simp) ?_
                refine AllReadyH.cons (o := _) rfl (fun K hK => ?_) AllReadyH.nil
                go_simp
                refine (as13_any _ T u1 HSu1.out.r (by rw [HTq.out]; exact HQl.out)).mono ?_
                rintro e u2 ⟨v2, rfl, hu2, hb2⟩
                have HBu2 : Hid (Below W.heap.size W u2) := HBu1.out.trans (hb2.mono HBu1.out.size)
                have HQu2 : Hid (UR u2 (.slice a6 L6 c6) Qs.ru) := HQu1.out.below hb2
                have HXu2 : Hid (u2.heap[P1]? = some (.cells #[.slice a5 L5 c5, .int .i64 T.lo, .int .i64 T.ne, .int .i64 T.ma] 33)) := (hb2.block _ hlu1.1).trans HXu1.out
                have HYu2 : Hid (u2.heap[P2]? = some (.cells #[.slice a6 L6 c6, .int .i64 Qs.lo, .int .i64 Qs.ne, .int .i64 Qs.ma] 38)) := (hb2.block _ hlu1.2).trans HYu1.out
                have HGu2 : Hid ((u2.cell? ⟨P1, 0, none⟩ = some (.slice a5 L5 c5) ∧ u2.cell? ⟨P1, 1, none⟩ = some (.int .i64 T.lo) ∧ u2.cell? ⟨P1, 2, none⟩ = some (.int .i64 T.ne) ∧ u2.cell? ⟨P1, 3, none⟩ = some (.int .i64 T.ma)) ∧ (u2.cell? ⟨P2, 0, none⟩ = some (.slice a6 L6 c6) ∧ u2.cell? ⟨P2, 1, none⟩ = some (.int .i64 Qs.lo) ∧ u2.cell? ⟨P2, 2, none⟩ = some (.int .i64 Qs.ne) ∧ u2.cell? ⟨P2, 3, none⟩ = some (.int .i64 Qs.ma))) := ⟨four13 HXu2.out, four13 HYu2.out⟩
                have hlu2 : P1 < u2.heap.size ∧ P2 < u2.heap.size := ⟨(Array.getElem?_eq_some_iff.1 HXu2.out).1, (Array.getElem?_eq_some_iff.1 HYu2.out).1⟩
                obtain ⟨ga, gc, hv2, _⟩ := hu2.form
                rw [HL5.out] at hv2
                subst hv2
                have HVu2 : Hid (RuR u2 (.slice ga L5 gc) T.ru) := hu2
                clear hb2 hu2
                go_simp
                refine hK.out _ _ ?_ (fun hHeld => ?_)
                · exact HGu2.out
                clear hK K
                refine wpAnyH_ready (rs := [14]) (by kernel_rfl) (by simp) ?_
                refine AllReadyH.cons (o := _) rfl (fun K hK => ?_) AllReadyH.nil
                go_simp
                refine (same13_any _ _ T.ru Qs.ru T.lo T.ne T.ma Qs.lo Qs.ne Qs.ma u2 HVu2.out HQu2.out.r).mono ?_
                rintro e u3 ⟨r, rfl, hr, hb3⟩
                have hr' : r = true := hr (by rw [HTq.out]; exact ⟨rfl, rfl, rfl, rfl⟩)
                subst hr'
                have HBu3 : Hid (Below W.heap.size W u3) := HBu2.out.trans (hb3.mono HBu2.out.size)
                have HGu3 : Hid ((u3.cell? ⟨P1, 0, none⟩ = some (.slice a5 L5 c5) ∧ u3.cell? ⟨P1, 1, none⟩ = some (.int .i64 T.lo) ∧ u3.cell? ⟨P1, 2, none⟩ = some (.int .i64 T.ne) ∧ u3.cell? ⟨P1, 3, none⟩ = some (.int .i64 T.ma)) ∧ (u3.cell? ⟨P2, 0, none⟩ = some (.slice a6 L6 c6) ∧ u3.cell? ⟨P2, 1, none⟩ = some (.int .i64 Qs.lo) ∧ u3.cell? ⟨P2, 2, none⟩ = some (.int .i64 Qs.ne) ∧ u3.cell? ⟨P2, 3, none⟩ = some (.int .i64 Qs.ma))) := ⟨four13 ((hb3.block _ hlu2.1).trans HXu2.out), four13 ((hb3.block _ hlu2.2).trans HYu2.out)⟩
                clear hb3 hr
                go_simp
                refine hK.out _ _ ?_ (fun hHeld => ?_)
                · exact HGu3.out
                clear hK K
                refine wpAnyH_take (i := 15) (v := .bool true) rfl (by kernel_rfl) (by kernel_rfl) (by kernel_rfl) (fun _ _ _ h => h) (Or.inl ⟨by rfl, ?_⟩) (by assumption) ?_
                · (intro w1 hSw; (try dsimp only at hSw); go_simp)
                simp only [List.getElem_toArray, List.getElem_cons_succ, List.getElem_cons_zero, Act.put, List.setIfInBounds_toArray, List.set_cons_zero, List.set_cons_succ]
                refine wpAnyH_ready (rs := [16]) (by kernel_rfl) (by simp) ?_
                refine AllReadyH.cons (o := _) rfl (fun K hK => ?_) AllReadyH.nil
                go_simp
                refine hK.out _ _ ?_ (fun hHeld => ?_)
                · exact HGu3.out
                clear hK K
                refine wpAnyH_done (by kernel_rfl) ?_ _
                refine NoPanic.normal ?_
                go_wp2_with fail
                go_ret
                exact ⟨rfl, HBu3.out⟩
            · have h2' : ¬ A = n := h2
              have h2'' : (A != n) = true := by simpa using h2
              have hR : R = (none, 114) := by rw [HR.out, if_neg (by simp), if_pos (.inr (.inl h2))]
              have hG : G = 114 := by rw [HG.out, hR]
              have hM : M = 0 := by rw [HM.out, hR]; rfl
              have hT : T = stZ := by rw [HT.out, hR]; rfl
              subst hG
              subst hM
              clear HG HM HT HR hR
              go_wp2_with fail
              refine (alive13_any w9).mono ?_
              rintro e w10 ⟨rfl, hb10⟩
              have HB10 : Hid (Below W.heap.size W w10) := HBW9.out.trans (hb10.mono HBW9.out.size)
              have hl1 : P1 < w9.heap.size := (Array.getElem?_eq_some_iff.1 HX9.out).1
              obtain ⟨c0, c1, c2, c3⟩ := four13 ((hb10.block _ hl1).trans HX9.out)
              have HS10 : Hid (UR w10 (.slice a5 L5 c5) T.ru) := HS9.out.below hb10
              have HTz : Hid (T = stZ) := hT
              clear hb10 hT
              go_wp2_with fail
              refine (as13_any _ T w10 HS10.out.r (by rw [HTz.out]; simp [stZ])).mono ?_
              rintro e w11 ⟨v11, rfl, hu11, hb11⟩
              have HB11 : Hid (Below W.heap.size W w11) := HB10.out.trans (hb11.mono HB10.out.size)
              obtain ⟨a11, c11, hv11, _⟩ := hu11.form
              subst hv11
              rw [HL5.out] at hu11 ⊢
              have hSm := same13_any _ (.slice none 0 0) T.ru [] T.lo T.ne T.ma 0 0 0 w11 hu11 (ur_nil w11).r
              have HSm : Hid (Calls Tryz.prog 15 #[.agg #[.slice a11 L5 c11, .int .i64 T.lo, .int .i64 T.ne, .int .i64 T.ma], .agg #[.slice none 0 0, .int .i64 0, .int .i64 0, .int .i64 0]] w11 _) := hSm
              clear hSm hu11 hb11
              go_wp2_with fail
              refine HSm.out.mono ?_
              rintro e w12 ⟨r, rfl, hr, hb12⟩
              have hr' : r = true := hr (by rw [HTz.out]; exact ⟨rfl, rfl, rfl, rfl⟩)
              subst hr'
              have HB12 : Hid (Below W.heap.size W w12) := HB11.out.trans (hb12.mono HB11.out.size)
              clear hb12 hr
              go_wp2_with fail
              go_ret
              exact ⟨rfl, HB12.out⟩
end Go.Proofs.YtilbffgpniomcaaGreatDoor
