/- TP3, joined. -/
import Derived.Test.YtopemhlkjicjpaaTG35
import Derived.Test.YtopemhlkjicjpaaTG37
import Derived.Test.YtopemhlkjicjpaaTG38
import Derived.OpenShut
/- TopTable's walk. -/
namespace Go.Proofs.Ytopemhlkjicjpaa
open Go.RowKit Go.ChangeShapes Go.WideShapes Go.ChangeAt

set_option maxRecDepth 100000 in
set_option maxHeartbeats 8000000 in
theorem toptable_walk (v : Value) (L : List Et) (hv : Value) (hs : List UInt8) (kv : Value) (key : List UInt8) (m : Int) (hm : m ≤ 9223372036854775807) (W : World) (hR : TRd W v L) (hH : Reads W hv hs) (hK : Reads W kv key) : Calls Try.prog 3 #[v, hv, kv, .int .i64 m] W fun e W' => e = .returned (.bool true) ∧ Below W.heap.size W W' := by
  have HAg : Hid (∀ x ∈ L, AgOk x.2) := hR.ag
  obtain ⟨a, cap, rfl, hc, hmx⟩ : ∃ a cap, v = .slice a L.length cap ∧ L.length ≤ cap ∧ cap ≤ maxLen := by obtain ⟨a, cap, h1, h2, h3, _⟩ := hR; exact ⟨a, cap, h1, h2, h3⟩
  unfold maxLen at hmx
  have HR : Hid (TRd W (.slice a L.length cap) L) := hR
  obtain ⟨ha, hc9, rfl, hhm⟩ := hH.form
  have HH : Hid (Reads W (.slice ha hs.length hc9) hs) := hH
  obtain ⟨ka, kc9, rfl, hkm⟩ := hK.form
  unfold maxLen at hhm hkm
  have HK : Hid (Reads W (.slice ka key.length kc9) key) := hK
  have HM : Hid (m ≤ 9223372036854775807) := hm
  obtain ⟨N, HN⟩ : ∃ n, Hid (L.length = n) := ⟨_, rfl⟩
  rw [HN.out] at HR hc ⊢
  obtain ⟨HL, HHL⟩ : ∃ n, Hid (hs.length = n) := ⟨_, rfl⟩
  rw [HHL.out] at HH hhm ⊢
  obtain ⟨KL, HKL⟩ : ∃ n, Hid (key.length = n) := ⟨_, rfl⟩
  rw [HKL.out] at HK hkm ⊢
  clear hR hH hK hm
  go_enter Try.func3, Try.ntmps3
  go_wp2_with fail
  refine (new_anyS W).mono ?_
  rintro e w1 ⟨L0, rfl, hs1, hb1⟩
  have HB1 : Hid (Below W.heap.size W w1) := hb1
  have HS1 : Hid (SK w1 W.heap.size L0 [] false) := hs1
  have hnm : (decide (some (⟨L0, 0, none⟩ : Addr) = none)) = false := by simp
  have hgr := great10_any _ L w1 (HR.out.below hb1)
  obtain ⟨G, HG⟩ := hid_ex (grB L)
  rw [← HG.out] at hgr
  have HGr : Hid (Calls Try.prog 5 #[.slice a N cap] w1 _) := hgr
  have HEarly : Hid (Calls Try.prog 6 #[] w1 fun e w' => e = .returned (.bool true) ∧ Below w1.heap.size w1 w') := alive05_any w1
  clear hs1 hb1 hgr
  go_wp2_with fail
  refine HGr.out.mono ?_
  clear HGr
  rintro e w0 ⟨rfl, rfl⟩
  cases G with
  | true =>
    go_wp2_with fail
    refine HEarly.out.mono ?_
    rintro e w2 ⟨rfl, hb2⟩
    have HB2 : Hid (Below W.heap.size W w2) := HB1.out.trans (hb2.mono HB1.out.size)
    clear hb2
    go_wp2_with fail
    go_ret
    exact ⟨rfl, HB2.out⟩
  | false =>
  by_cases h80 : 80 < N
  · have h80' : (80 : Int) < (N : Int) := by omega
    go_wp2_with fail
    refine HEarly.out.mono ?_
    rintro e w2 ⟨rfl, hb2⟩
    have HB2 : Hid (Below W.heap.size W w2) := HB1.out.trans (hb2.mono HB1.out.size)
    clear hb2
    go_wp2_with fail
    go_ret
    exact ⟨rfl, HB2.out⟩
  have h80' : ¬ (80 : Int) < (N : Int) := by omega
  by_cases h300 : 300 < KL
  · have h300' : (300 : Int) < (KL : Int) := by omega
    go_wp2_with fail
    refine HEarly.out.mono ?_
    rintro e w2 ⟨rfl, hb2⟩
    have HB2 : Hid (Below W.heap.size W w2) := HB1.out.trans (hb2.mono HB1.out.size)
    clear hb2
    go_wp2_with fail
    go_ret
    exact ⟨rfl, HB2.out⟩
  have h300' : ¬ (300 : Int) < (KL : Int) := by omega
  clear HEarly HG
  go_wp2_with fail
  go_loopw [10] (fun i wr => ∃ (j : Nat) (E : List En), i = .int .i64 (j : Int) ∧ j ≤ N ∧ Hid (SK wr W.heap.size L0 E false) ∧ Hid (MnE E) ∧ Hid (E.length ≤ j) ∧ Hid (Below W.heap.size W wr)) (fun i _ => N - (intOf i).toNat)
  case atStart => exact ⟨0, [], rfl, by omega, HS1, (by intro x h; cases h), Nat.le_refl _, HB1⟩
  case round =>
    rename World => wr
    obtain ⟨j, E, rfl, hj, HS, HE, HEl, HB⟩ := hrel
    by_cases hlt : j < N
    · have hlt' : (j : Int) < (N : Int) := by omega
      have hjl : j < L.length := by rw [HN.out]; exact hlt
      obtain ⟨x, Hx⟩ := hid_ex L[j]
      have HAx : Hid (AgOk x.2) := by unfold Hid; rw [Hx.out]; exact HAg.out _ (List.getElem_mem hjl)
      obtain ⟨b, off, xkv, rfl, hbw, hcs, hrk, _⟩ := HR.out.at hjl Hx.out
      obtain ⟨xk, A⟩ := x
      simp only at hcs hrk HAx
      obtain ⟨xa, xc, rfl, hkm2⟩ := hrk.form
      obtain ⟨XL, HXL⟩ : ∃ n, Hid (xk.length = n) := ⟨_, rfl⟩
      rw [HXL.out] at hcs hrk hkm2
      have q : ∀ i (hi : i < 7), wr.cell? ⟨b, off + j * 7 + i, none⟩ = some ((e7 (.slice xa XL xc) A)[i]'hi) := fun i hi => (HB.out.cell (p := ⟨b, off + j * 7 + i, none⟩) hbw).trans (hcs i hi)
      have c0 := q 0 (by decide)
      have c1 := q 1 (by decide)
      have c2 := q 2 (by decide)
      have c3 := q 3 (by decide)
      have c4 := q 4 (by decide)
      have c5 := q 5 (by decide)
      have c6 := q 6 (by decide)
      simp only [e7, List.getElem_cons_succ, List.getElem_cons_zero, Nat.add_zero] at c0 c1 c2 c3 c4 c5 c6
      have HPut : Hid (∀ h : Int, Calls Try.prog 7 #[.pointer (some ⟨L0, 0, none⟩), .agg #[.slice xa XL xc, .int .u64 A.c, .bool A.o, .int .i64 (hi A.s), .int .u64 (lo A.s), .int .i64 A.mn, .int .i64 A.mx], .int .i64 h] wr fun e w' => (∃ u, e = .returned (.int .i64 u)) ∧ (∃ E', SK w' W.heap.size L0 E' false ∧ MnE E' ∧ E'.length ≤ j + 1) ∧ Below W.heap.size wr w') := fun h => by
        refine (put_any L0 E false (.slice xa XL xc) xk A h wr W.heap.size HB.out.size HS.out (hrk.below HB.out) ⟨HAx.out.c1, HAx.out.c2⟩ (by have := HEl.out; omega)).mono ?_
        rintro e w' ⟨rfl, h1, h2, _⟩
        refine ⟨⟨_, rfl⟩, ⟨_, h1, ?_, ?_⟩, h2⟩
        · split
          · exact mn_put HE.out ⟨HAx.out.n1, HAx.out.n2, HAx.out.x1, HAx.out.x2⟩
          · exact HE.out
        · split
          · have := put_len E xk A; have := HEl.out; omega
          · have := HEl.out; omega
      clear hrk hcs q Hx hkm2
      by_cases hh : j < HL
      · have hh' : (j : Int) < (HL : Int) := by omega
        obtain ⟨bH, oH, rfl, hbH, hcH⟩ := HH.out.at j (by rw [HHL.out]; exact hh)
        have h0 := (HB.out.cell (p := ⟨bH, oH + j, none⟩) hbH).trans hcH
        obtain ⟨hgt, eH, hg1, hg2⟩ := hgtv (hs[j]'(by rw [HHL.out]; exact hh))
        obtain ⟨t, Ht⟩ := hid_ex (hs[j]'(by rw [HHL.out]; exact hh)).toNat
        unfold bc at h0
        rw [← Ht.out] at h0 eH
        clear hcH Ht
        go_wp2_with fail
        (try rw [eH])
        refine (HPut.out _).mono ?_
        clear HPut
        rintro e w2 ⟨⟨u, rfl⟩, ⟨E2, hs2, he2, hl2⟩, hb2⟩
        have HB2 : Hid (Below W.heap.size W w2) := HB.out.trans hb2
        have HS2 : Hid (SK w2 W.heap.size L0 E2 false) := hs2
        have HE2 : Hid (MnE E2) := he2
        have HL2 : Hid (E2.length ≤ j + 1) := hl2
        clear hb2 hs2 he2 hl2 c0 c1 c2 c3 c4 c5 c6 h0 eH HS HB
        go_wp2_with fail
        go_roundw
        case rel => exact ⟨j + 1, E2, by go_num, by omega, HS2, HE2, HL2, HB2⟩
        case measure => simp [intOf]; omega
      · have hh' : ¬ (j : Int) < (HL : Int) := by omega
        go_wp2_with fail
        refine (HPut.out _).mono ?_
        clear HPut
        rintro e w2 ⟨⟨u, rfl⟩, ⟨E2, hs2, he2, hl2⟩, hb2⟩
        have HB2 : Hid (Below W.heap.size W w2) := HB.out.trans hb2
        have HS2 : Hid (SK w2 W.heap.size L0 E2 false) := hs2
        have HE2 : Hid (MnE E2) := he2
        have HL2 : Hid (E2.length ≤ j + 1) := hl2
        clear hb2 hs2 he2 hl2 c0 c1 c2 c3 c4 c5 c6 HS HB
        go_wp2_with fail
        go_roundw
        case rel => exact ⟨j + 1, E2, by go_num, by omega, HS2, HE2, HL2, HB2⟩
        case measure => simp [intOf]; omega
    · have hlt' : ¬ (j : Int) < (N : Int) := by omega
      have HEn : Hid (E.length ≤ 80) := by have := HEl.out; unfold Hid; omega
      clear HEl HS1 HB1
      go_wp2_with fail
      refine (freeze_any L0 E false _ _ HS.out).mono ?_
      rintro e w2 ⟨rfl, hs2, hb2⟩
      have HS2 : Hid (SK w2 W.heap.size L0 E true) := hs2
      have HB2 : Hid (Below W.heap.size W w2) := HB.out.trans hb2
      clear hs2 hb2 HS HB
      go_wp2_with fail
      refine (all_anyS L0 E true _ _ HS2.out).mono ?_
      rintro e w3 ⟨v3, xs3, rfl, ho3, he3, hb3⟩
      have HB3 : Hid (Below W.heap.size W w3) := HB2.out.trans (hb3.mono HB2.out.size)
      have HS3 : Hid (SK w3 W.heap.size L0 E true) := HS2.out.below hb3
      have HAgE : Hid (∀ x ∈ E, AgOk (nz x.2)) := sk_ag HS3.out HE.out
      have htr := ho3.trd (by rw [he3]; exact HAgE.out)
      rw [he3] at htr
      have hwr := twrite_all v3 (E.map nzE) w3 htr
      rw [sk_tok_e HS3.out HEn.out] at hwr
      have HWr : Hid (Calls Try.prog 9 #[v3] w3 _) := hwr
      obtain ⟨a3, c3, hv3, _⟩ := ho3.at
      subst hv3
      clear hb3 ho3 he3 htr hwr HS2 HB2
      go_wp2_with fail
      refine HWr.out.mono ?_
      clear HWr
      rintro e w4 ⟨v4, rfl, ho4, hb4⟩
      have HB4 : Hid (Below W.heap.size W w4) := HB3.out.trans (hb4.mono HB3.out.size)
      have HS4 : Hid (SK w4 W.heap.size L0 E true) := HS3.out.below hb4
      have htw : twE (E.map nzE) = 0 := sk_tok_e HS3.out HEn.out
      have HAgM : Hid (∀ x ∈ E.map nzE, AgOk x.2) := fun x hx => by
        obtain ⟨y, hy, rfl⟩ := List.mem_map.1 hx
        exact HAgE.out y hy
      have hop := topen_any v4 (twB (E.map nzE)) w4 ho4.reads (twB_len htw (by rw [List.length_map]; exact HEn.out))
      have hbk := op_back htw HAgM.out
      have HOp : Hid (Calls Try.prog 11 #[v4] w4 fun e w' => ∃ B, e = .returned (.tuple #[.pointer (some ⟨B, 0, none⟩), .int .i64 0]) ∧ Tb w' w4.heap.size B (E.map nzE) ∧ Below w4.heap.size w4 w') := by
        refine hop.mono ?_
        rintro e w' ⟨h1, ⟨_, B, h2, h3⟩ | ⟨hno, _⟩⟩
        · rw [hbk.1] at h3; exact ⟨B, h2, h3, h1⟩
        · exact absurd hbk.2 hno
      obtain ⟨a4, c4, hv4, _⟩ := ho4.form
      subst hv4
      clear ho4 hb4 hop hbk htw HS3 HB3
      go_wp2_with fail
      refine HOp.out.mono ?_
      clear HOp
      rintro e w5 ⟨B, rfl, hT5, hb5⟩
      have HB5 : Hid (Below W.heap.size W w5) := HB4.out.trans (hb5.mono HB4.out.size)
      have HS5 : Hid (SK w5 W.heap.size L0 E true) := HS4.out.below hb5
      obtain ⟨lo5, Hlo⟩ := hid_ex w4.heap.size
      rw [← Hlo.out] at hT5
      have HT5 : Hid (Tb w5 lo5 B (E.map nzE)) := hT5
      have hln := tlen_any hT5
      rw [List.length_map] at hln
      have HLn : Hid (Calls Try.prog 12 #[.pointer (some ⟨B, 0, none⟩)] w5 _) := hln
      obtain ⟨EL, HELn⟩ : ∃ n, Hid (E.length = n) := ⟨_, rfl⟩
      have hl2 := len_any L0 E true w5 W.heap.size HS5.out
      rw [HELn.out] at HLn hl2
      have HL2 : Hid (Calls Try.prog 13 #[.pointer (some ⟨L0, 0, none⟩)] w5 _) := hl2
      clear hT5 hb5 hln hl2 HS4 HB4 Hlo
      go_wp2_with fail
      refine HLn.out.mono ?_
      clear HLn
      rintro e w5' ⟨rfl, rfl⟩
      go_wp2_with fail
      refine HL2.out.mono ?_
      clear HL2
      rintro e w5'' ⟨rfl, rfl⟩
      have hg1 := sget_any HS5.out _ key (HK.out.below HB5.out)
      have hgm : (gtE E key).isSome = true → tmyF (E.map nzE) key = true := fun h => gtE_my HS5.out h
      have hg2 : ∀ w0, Below w5''.heap.size w5'' w0 → Calls Try.prog 15 #[.pointer (some ⟨B, 0, none⟩), .slice ka KL kc9] w0 fun e w' => e = .returned (.tuple #[agv ((gtE E key).getD agZ), .bool (gtE E key).isSome]) ∧ Below w0.heap.size w0 w' := fun w0 h0 => tgetE_any (HT5.out.below h0) HS5.out _ key ((HK.out.below HB5.out).below h0)
      obtain ⟨A1, HA1⟩ := hid_ex ((gtE E key).getD agZ)
      obtain ⟨b1, Hb1⟩ := hid_ex (gtE E key).isSome
      rw [← HA1.out, ← Hb1.out] at hg1
      rw [← HA1.out, ← Hb1.out] at hg2
      rw [← Hb1.out] at hgm
      unfold agv at hg1 hg2
      have HG1 : Hid (Calls Try.prog 14 #[.pointer (some ⟨L0, 0, none⟩), .slice ka KL kc9] w5'' _) := hg1
      have HG2 : Hid _ := hg2
      have HGm : Hid (b1 = true → tmyF (E.map nzE) key = true) := hgm
      have HOn : Hid (([.int .u64 A1.c, .bool A1.o, .int .i64 (hi A1.s), .int .u64 (lo A1.s), .int .i64 A1.mn, .int .i64 A1.mx] : List Value).toArray.all (·.oneCell') = true) := by unfold Hid; kernel_rfl
      clear hg1 hg2 hgm HA1 Hb1
      go_wp2_with fail
      refine HG1.out.mono ?_
      clear HG1
      rintro e w6 ⟨rfl, hb6⟩
      go_wp2_with (refine stop_store 34 _ _ rfl ?_)
      refine Stop.of ?_
      refine wpList_storeN rfl _ _ _ rfl w6.heap.size 0 [.int .u64 A1.c, .bool A1.o, .int .i64 (hi A1.s), .int .u64 (lo A1.s), .int .i64 A1.mn, .int .i64 A1.mx] rfl rfl _ _ (heap_alloc_new _ _) (by simp) (by kernel_rfl) HOn.out ?_
      intro w7 hw7
      obtain ⟨hb7, hx7, hz7⟩ := stW_nw hw7 (by simp)
      have hb57 : Below w5''.heap.size w5'' w7 := hb6.trans (hb7.mono hb6.size)
      have HB7 : Hid (Below W.heap.size W w7) := HB5.out.trans (hb57.mono HB5.out.size)
      have HG2' : Hid (Calls Try.prog 15 #[.pointer (some ⟨B, 0, none⟩), .slice ka KL kc9] w7 _) := HG2.out w7 hb57
      have HS7 : Hid (SK w7 W.heap.size L0 E true) := HS5.out.below hb57
      have HT7 : Hid (Tb w7 lo5 B (E.map nzE)) := HT5.out.below hb57
      obtain ⟨P, HP⟩ := hid_ex w6.heap.size
      have hWP : W.heap.size ≤ w6.heap.size := Nat.le_trans HB5.out.size hb6.size
      rw [← HP.out] at hx7 hz7 hWP ⊢
      have HWP : Hid (W.heap.size ≤ P ∧ P < w7.heap.size) := ⟨hWP, hz7⟩
      have HX7 : Hid (w7.heap[P]? = some (.cells #[.int .u64 A1.c, .bool A1.o, .int .i64 (hi A1.s), .int .u64 (lo A1.s), .int .i64 A1.mn, .int .i64 A1.mx] 34)) := hx7
      clear HG2 hb6 hb7 hx7 hz7 hw7 hb57 HP hWP HS5 HT5 HB5
      go_wp2_with fail
      refine HG2'.out.mono ?_
      clear HG2'
      rintro e w8 ⟨rfl, hb8⟩
      go_wp2_with (refine stop_store 34 _ _ rfl ?_)
      refine Stop.of ?_
      refine wpList_storeN rfl _ _ _ rfl w8.heap.size 0 [.int .u64 A1.c, .bool A1.o, .int .i64 (hi A1.s), .int .u64 (lo A1.s), .int .i64 A1.mn, .int .i64 A1.mx] rfl rfl _ _ (heap_alloc_new _ _) (by simp) (by kernel_rfl) HOn.out ?_
      intro w9 hw9
      obtain ⟨hb9, hx9, hz9⟩ := stW_nw hw9 (by simp)
      have hb79 : Below w7.heap.size w7 w9 := hb8.trans (hb9.mono hb8.size)
      have HB9 : Hid (Below W.heap.size W w9) := HB7.out.trans (hb79.mono HB7.out.size)
      have HS9 : Hid (SK w9 W.heap.size L0 E true) := HS7.out.below hb79
      have HT9 : Hid (Tb w9 lo5 B (E.map nzE)) := HT7.out.below hb79
      obtain ⟨Q, HQ⟩ := hid_ex w8.heap.size
      have hPQ : P < w8.heap.size := Nat.lt_of_lt_of_le HWP.out.2 hb8.size
      rw [← HQ.out] at hx9 hPQ hz9 ⊢
      have HPQ : Hid (P < Q ∧ W.heap.size ≤ P) := ⟨hPQ, HWP.out.1⟩
      have HXP : Hid (w9.heap[P]? = some (.cells #[.int .u64 A1.c, .bool A1.o, .int .i64 (hi A1.s), .int .u64 (lo A1.s), .int .i64 A1.mn, .int .i64 A1.mx] 34)) := (hb79.block P HWP.out.2).trans HX7.out
      have HXQ : Hid (w9.heap[Q]? = some (.cells #[.int .u64 A1.c, .bool A1.o, .int .i64 (hi A1.s), .int .u64 (lo A1.s), .int .i64 A1.mn, .int .i64 A1.mx] 34)) := hx9
      have p0 := cell_rw HXP.out 0 (by simp)
      have p1 := cell_rw HXP.out 1 (by simp)
      have p2 := cell_rw HXP.out 2 (by simp)
      have p3 := cell_rw HXP.out 3 (by simp)
      have p4 := cell_rw HXP.out 4 (by simp)
      have p5 := cell_rw HXP.out 5 (by simp)
      simp only [List.getElem_toArray, List.getElem_cons_succ, List.getElem_cons_zero] at p0 p1 p2 p3 p4 p5
      have q0 := cell_rw HXQ.out 0 (by simp)
      have q1 := cell_rw HXQ.out 1 (by simp)
      have q2 := cell_rw HXQ.out 2 (by simp)
      have q3 := cell_rw HXQ.out 3 (by simp)
      have q4 := cell_rw HXQ.out 4 (by simp)
      have q5 := cell_rw HXQ.out 5 (by simp)
      simp only [List.getElem_toArray, List.getElem_cons_succ, List.getElem_cons_zero] at q0 q1 q2 q3 q4 q5
      clear hb8 hb9 hx9 hw9 hz9 hb79 HQ hPQ HS7 HT7 HB7 HX7 HWP
      have HPe : Hid (∃ A : Ag, w9.heap[P]? = some (.cells #[.int .u64 A.c, .bool A.o, .int .i64 (hi A.s), .int .u64 (lo A.s), .int .i64 A.mn, .int .i64 A.mx] 34)) := ⟨A1, HXP.out⟩
      have HQe : Hid (∃ A : Ag, w9.heap[Q]? = some (.cells #[.int .u64 A.c, .bool A.o, .int .i64 (hi A.s), .int .u64 (lo A.s), .int .i64 A.mn, .int .i64 A.mx] 34)) := ⟨A1, HXQ.out⟩
      clear HXP HXQ
      cases b1 with
      | true =>
        have hmy := tmay_any HT9.out _ key (HK.out.below HB9.out)
        rw [HGm.out rfl] at hmy
        have HMy : Hid (Calls Try.prog 16 #[.pointer (some ⟨B, 0, none⟩), .slice ka KL kc9] w9 _) := hmy
        clear hmy
        go_wp2_with fail
        refine HMy.out.mono ?_
        clear HMy
        rintro e wA ⟨rfl, hbA⟩
        have HBA : Hid (Below W.heap.size W wA) := HB9.out.trans (hbA.mono HB9.out.size)
        have HSA : Hid (SK wA W.heap.size L0 E true) := HS9.out.below hbA
        have HTA : Hid (Tb wA lo5 B (E.map nzE)) := HT9.out.below hbA
        have HPA : Hid (∃ A : Ag, wA.heap[P]? = some (.cells #[.int .u64 A.c, .bool A.o, .int .i64 (hi A.s), .int .u64 (lo A.s), .int .i64 A.mn, .int .i64 A.mx] 34)) := by obtain ⟨A, h⟩ := HPe.out; exact ⟨A, (hbA.block P (Array.getElem?_eq_some_iff.1 h).1).trans h⟩
        have HQA : Hid (∃ A : Ag, wA.heap[Q]? = some (.cells #[.int .u64 A.c, .bool A.o, .int .i64 (hi A.s), .int .u64 (lo A.s), .int .i64 A.mn, .int .i64 A.mx] 34)) := by obtain ⟨A, h⟩ := HQe.out; exact ⟨A, (hbA.block Q (Array.getElem?_eq_some_iff.1 h).1).trans h⟩
        clear hbA p0 p1 p2 p3 p4 p5 q0 q1 q2 q3 q4 q5 HB9 HS9 HT9 HPe HQe
        go_wp2_with fail
        refine (seek_any L0 E true _ key m wA _ HSA.out (HK.out.below HBA.out)).mono ?_
        rintro e wB ⟨vB, ys, rfl, hoB, hyB, hbB⟩
        have HBB : Hid (Below W.heap.size W wB) := HBA.out.trans (hbB.mono HBA.out.size)
        have HSB : Hid (SK wB W.heap.size L0 E true) := HSA.out.below hbB
        have HTB : Hid (Tb wB lo5 B (E.map nzE)) := HTA.out.below hbB
        have htB := hoB.trd (by rw [hyB]; exact fun x hx => HAgE.out x (List.mem_of_mem_drop (List.mem_of_mem_take hx)))
        rw [hyB] at htB
        obtain ⟨SL, HSL⟩ := hid_ex ((skF E key m).map nzE)
        rw [← HSL.out] at htB
        have HtB : Hid (TRd wB vB SL) := htB
        have HSe : Hid (Calls Try.prog 19 #[.pointer (some ⟨B, 0, none⟩), .slice ka KL kc9, .int .i64 m] wB (FiP wB SL)) := by
          have h := tseekI_any HTB.out _ key (HK.out.below HBB.out) m HM.out
          rw [sk_same HSB.out, ← HSL.out] at h
          exact h
        obtain ⟨aB, cB, hvB, _⟩ := hoB.at
        subst hvB
        have HPB : Hid (∃ A : Ag, wB.heap[P]? = some (.cells #[.int .u64 A.c, .bool A.o, .int .i64 (hi A.s), .int .u64 (lo A.s), .int .i64 A.mn, .int .i64 A.mx] 34)) := by obtain ⟨A, h⟩ := HPA.out; exact ⟨A, (hbB.block P (Array.getElem?_eq_some_iff.1 h).1).trans h⟩
        have HQB : Hid (∃ A : Ag, wB.heap[Q]? = some (.cells #[.int .u64 A.c, .bool A.o, .int .i64 (hi A.s), .int .u64 (lo A.s), .int .i64 A.mn, .int .i64 A.mx] 34)) := by obtain ⟨A, h⟩ := HQA.out; exact ⟨A, (hbB.block Q (Array.getElem?_eq_some_iff.1 h).1).trans h⟩
        clear hoB hyB hbB htB HSA HTA HBA HPA HQA HSL
        go_wp2_with fail
        refine HSe.out.mono ?_
        clear HSe
        rintro e wC ⟨vC, zs, rfl, hzs, htoC, hbC⟩
        have htC := htoC.reads
        rw [hzs] at htC
        have HSm := same10_true _ vC SL wC (HtB.out.below hbC) htC
        obtain ⟨aC, cC, hvC, _⟩ := htoC.form
        subst hvC
        have HSm : Hid (Calls Try.prog 17 #[_, _] wC _) := HSm
        have HBC : Hid (Below W.heap.size W wC) := HBB.out.trans (hbC.mono HBB.out.size)
        have HSC : Hid (SK wC W.heap.size L0 E true) := HSB.out.below hbC
        have HTC : Hid (Tb wC lo5 B (E.map nzE)) := HTB.out.below hbC
        have HPC : Hid (∃ A : Ag, wC.heap[P]? = some (.cells #[.int .u64 A.c, .bool A.o, .int .i64 (hi A.s), .int .u64 (lo A.s), .int .i64 A.mn, .int .i64 A.mx] 34)) := by obtain ⟨A, h⟩ := HPB.out; exact ⟨A, (hbC.block P (Array.getElem?_eq_some_iff.1 h).1).trans h⟩
        have HQC : Hid (∃ A : Ag, wC.heap[Q]? = some (.cells #[.int .u64 A.c, .bool A.o, .int .i64 (hi A.s), .int .u64 (lo A.s), .int .i64 A.mn, .int .i64 A.mx] 34)) := by obtain ⟨A, h⟩ := HQB.out; exact ⟨A, (hbC.block Q (Array.getElem?_eq_some_iff.1 h).1).trans h⟩
        clear hzs htoC hbC htC HtB HSB HTB HBB HPB HQB
        go_wp2_with fail
        refine HSm.out.mono ?_
        clear HSm
        rintro e wD ⟨rfl, hbD⟩
        have HBD : Hid (Below W.heap.size W wD) := HBC.out.trans (hbD.mono HBC.out.size)
        have HSD : Hid (SK wD W.heap.size L0 E true) := HSC.out.below hbD
        have HTD : Hid (Tb wD lo5 B (E.map nzE)) := HTC.out.below hbD
        have HPD : Hid (∃ A : Ag, wD.heap[P]? = some (.cells #[.int .u64 A.c, .bool A.o, .int .i64 (hi A.s), .int .u64 (lo A.s), .int .i64 A.mn, .int .i64 A.mx] 34)) := by obtain ⟨A, h⟩ := HPC.out; exact ⟨A, (hbD.block P (Array.getElem?_eq_some_iff.1 h).1).trans h⟩
        have HQD : Hid (∃ A : Ag, wD.heap[Q]? = some (.cells #[.int .u64 A.c, .bool A.o, .int .i64 (hi A.s), .int .u64 (lo A.s), .int .i64 A.mn, .int .i64 A.mx] 34)) := by obtain ⟨A, h⟩ := HQC.out; exact ⟨A, (hbD.block Q (Array.getElem?_eq_some_iff.1 h).1).trans h⟩
        clear hbD HSC HTC HBC HPC HQC
        go_wp2_with fail
        go_loopw [20] (fun i wr => ∃ (j : Nat), i = .int .i64 (j : Int) ∧ j ≤ N ∧ Hid (SK wr W.heap.size L0 E true) ∧ Hid (Tb wr lo5 B (E.map nzE)) ∧ Hid (∃ A : Ag, wr.heap[P]? = some (.cells #[.int .u64 A.c, .bool A.o, .int .i64 (hi A.s), .int .u64 (lo A.s), .int .i64 A.mn, .int .i64 A.mx] 34)) ∧ Hid (∃ A : Ag, wr.heap[Q]? = some (.cells #[.int .u64 A.c, .bool A.o, .int .i64 (hi A.s), .int .u64 (lo A.s), .int .i64 A.mn, .int .i64 A.mx] 34)) ∧ Hid (Below W.heap.size W wr)) (fun i _ => N - (intOf i).toNat)
        case atStart => exact ⟨0, rfl, by omega, HSD, HTD, HPD, HQD, HBD⟩
        case round =>
          rename World => wz
          clear HSD HTD HPD HQD HBD
          obtain ⟨r, rfl, hr, HS, HT, HPz, HQz, HB⟩ := hrel
          by_cases hrl : r < N
          · have hrl' : (r : Int) < (N : Int) := by omega
            have hjl : r < L.length := by rw [HN.out]; exact hrl
            obtain ⟨x, Hx⟩ := hid_ex L[r]
            obtain ⟨b, off, xkv, he, hbw, hcs, hrk, _⟩ := HR.out.at hjl Hx.out
            subst he
            obtain ⟨xk, A⟩ := x
            simp only at hcs hrk
            obtain ⟨xa, xc, rfl, _⟩ := hrk.form
            obtain ⟨XL, HXL⟩ : ∃ n, Hid (xk.length = n) := ⟨_, rfl⟩
            rw [HXL.out] at hcs hrk
            have hcW := hcs 0 (by decide)
            simp only [e7, List.getElem_cons_zero, Nat.add_zero] at hcW
            have HCw : Hid (b < W.heap.size ∧ W.cell? ⟨b, off + r * 7, none⟩ = some (.slice xa XL xc)) := ⟨hbw, hcW⟩
            have HRk : Hid (Reads W (.slice xa XL xc) xk) := hrk
            have c0 := (HB.out.cell (p := ⟨b, off + r * 7, none⟩) hbw).trans hcW
            have hg1 := sget_any HS.out _ xk (HRk.out.below HB.out)
            have hg2 : ∀ w0, Tb w0 lo5 B (E.map nzE) → Below W.heap.size W w0 → Calls Try.prog 15 #[.pointer (some ⟨B, 0, none⟩), .slice xa XL xc] w0 fun e w' => e = .returned (.tuple #[agv ((gtE E xk).getD agZ), .bool (gtE E xk).isSome]) ∧ Below w0.heap.size w0 w' := fun w0 h0 h1 => tgetE_any h0 HS.out _ xk (HRk.out.below h1)
            obtain ⟨A2, HA2⟩ := hid_ex ((gtE E xk).getD agZ)
            obtain ⟨b2, Hb2⟩ := hid_ex (gtE E xk).isSome
            rw [← HA2.out, ← Hb2.out] at hg1
            rw [← HA2.out, ← Hb2.out] at hg2
            unfold agv at hg1 hg2
            have HG1 : Hid (Calls Try.prog 14 #[.pointer (some ⟨L0, 0, none⟩), .slice xa XL xc] wz _) := hg1
            have HG2 : Hid _ := hg2
            have HOm : Hid (([.int .u64 A2.c, .bool A2.o, .int .i64 (hi A2.s), .int .u64 (lo A2.s), .int .i64 A2.mn, .int .i64 A2.mx] : List Value).toArray.all (·.oneCell') = true) := by unfold Hid; kernel_rfl
            clear hg1 hg2 HA2 Hb2 hcs hrk hcW hbw Hx HXL
            go_wp2_with fail
            refine HG1.out.mono ?_
            clear HG1
            rintro e u1 ⟨rfl, hbu⟩
            have HBu : Hid (Below W.heap.size W u1) := HB.out.trans (hbu.mono HB.out.size)
            have HSu : Hid (SK u1 W.heap.size L0 E true) := HS.out.below hbu
            have HTu : Hid (Tb u1 lo5 B (E.map nzE)) := HT.out.below hbu
            obtain ⟨Ap, hpz⟩ := HPz.out
            obtain ⟨Aq, hqz⟩ := HQz.out
            have HPu : Hid (u1.heap[P]? = some (.cells #[.int .u64 Ap.c, .bool Ap.o, .int .i64 (hi Ap.s), .int .u64 (lo Ap.s), .int .i64 Ap.mn, .int .i64 Ap.mx] 34)) := (hbu.block P (Array.getElem?_eq_some_iff.1 hpz).1).trans hpz
            have HQu : Hid (u1.heap[Q]? = some (.cells #[.int .u64 Aq.c, .bool Aq.o, .int .i64 (hi Aq.s), .int .u64 (lo Aq.s), .int .i64 Aq.mn, .int .i64 Aq.mx] 34)) := (hbu.block Q (Array.getElem?_eq_some_iff.1 hqz).1).trans hqz
            clear hpz hqz hbu HS HT HB HPz HQz c0
            go_wp2_with (refine stop_store 34 _ _ rfl ?_)
            refine Stop.of ?_
            refine wpList_storeN rfl _ _ _ rfl P 0 [.int .u64 A2.c, .bool A2.o, .int .i64 (hi A2.s), .int .u64 (lo A2.s), .int .i64 A2.mn, .int .i64 A2.mx] rfl rfl _ _ HPu.out (by simp) (by kernel_rfl) HOm.out ?_
            intro u2 hu2
            have hk2 := stW_kp hu2 HPu.out
            have HB2 : Hid (Below W.heap.size W u2) := HBu.out.trans (hu2.b _ HPQ.out.2)
            have HS2 : Hid (SK u2 W.heap.size L0 E true) := HSu.out.kpT hk2 (by decide) (by decide) (by decide)
            have HT2 : Hid (Tb u2 lo5 B (E.map nzE)) := HTu.out.kpS hk2 (by decide) (by decide) (by decide) (by decide)
            have HP2 : Hid (u2.heap[P]? = some (.cells #[.int .u64 A2.c, .bool A2.o, .int .i64 (hi A2.s), .int .u64 (lo A2.s), .int .i64 A2.mn, .int .i64 A2.mx] 34)) := stW_full hu2 (by simp)
            have HQ2 : Hid (u2.heap[Q]? = some (.cells #[.int .u64 Aq.c, .bool Aq.o, .int .i64 (hi Aq.s), .int .u64 (lo Aq.s), .int .i64 Aq.mn, .int .i64 Aq.mx] 34)) := (hu2.o Q (by have := HPQ.out.1; omega)).trans HQu.out
            have HG3 : Hid (Calls Try.prog 15 #[.pointer (some ⟨B, 0, none⟩), .slice xa XL xc] u2 _) := HG2.out u2 HT2.out HB2.out
            have c0 := (HB2.out.cell (p := ⟨b, off + r * 7, none⟩) HCw.out.1).trans HCw.out.2
            clear hu2 hk2 HBu HSu HTu HPu HQu HG2
            go_wp2_with fail
            refine HG3.out.mono ?_
            clear HG3
            rintro e u3 ⟨rfl, hb3⟩
            have HB3 : Hid (Below W.heap.size W u3) := HB2.out.trans (hb3.mono HB2.out.size)
            have HS3 : Hid (SK u3 W.heap.size L0 E true) := HS2.out.below hb3
            have HT3 : Hid (Tb u3 lo5 B (E.map nzE)) := HT2.out.below hb3
            have HP3 : Hid (u3.heap[P]? = some (.cells #[.int .u64 A2.c, .bool A2.o, .int .i64 (hi A2.s), .int .u64 (lo A2.s), .int .i64 A2.mn, .int .i64 A2.mx] 34)) := (hb3.block P (Array.getElem?_eq_some_iff.1 HP2.out).1).trans HP2.out
            have HQ3 : Hid (u3.heap[Q]? = some (.cells #[.int .u64 Aq.c, .bool Aq.o, .int .i64 (hi Aq.s), .int .u64 (lo Aq.s), .int .i64 Aq.mn, .int .i64 Aq.mx] 34)) := (hb3.block Q (Array.getElem?_eq_some_iff.1 HQ2.out).1).trans HQ2.out
            clear hb3 HB2 HS2 HT2 HP2 HQ2 c0
            go_wp2_with (refine stop_store 34 _ _ rfl ?_)
            refine Stop.of ?_
            refine wpList_storeN rfl _ _ _ rfl Q 0 [.int .u64 A2.c, .bool A2.o, .int .i64 (hi A2.s), .int .u64 (lo A2.s), .int .i64 A2.mn, .int .i64 A2.mx] rfl rfl _ _ HQ3.out (by simp) (by kernel_rfl) HOm.out ?_
            intro u4 hu4
            have hk4 := stW_kp hu4 HQ3.out
            have HB4 : Hid (Below W.heap.size W u4) := HB3.out.trans (hu4.b _ (by have := HPQ.out; omega))
            have HS4 : Hid (SK u4 W.heap.size L0 E true) := HS3.out.kpT hk4 (by decide) (by decide) (by decide)
            have HT4 : Hid (Tb u4 lo5 B (E.map nzE)) := HT3.out.kpS hk4 (by decide) (by decide) (by decide) (by decide)
            have hp4 : u4.heap[P]? = some (.cells #[.int .u64 A2.c, .bool A2.o, .int .i64 (hi A2.s), .int .u64 (lo A2.s), .int .i64 A2.mn, .int .i64 A2.mx] 34) := (hu4.o P (by have := HPQ.out.1; omega)).trans HP3.out
            have hq4 : u4.heap[Q]? = some (.cells #[.int .u64 A2.c, .bool A2.o, .int .i64 (hi A2.s), .int .u64 (lo A2.s), .int .i64 A2.mn, .int .i64 A2.mx] 34) := stW_full hu4 (by simp)
            have HP4 : Hid (∃ A : Ag, u4.heap[P]? = some (.cells #[.int .u64 A.c, .bool A.o, .int .i64 (hi A.s), .int .u64 (lo A.s), .int .i64 A.mn, .int .i64 A.mx] 34)) := ⟨A2, hp4⟩
            have HQ4 : Hid (∃ A : Ag, u4.heap[Q]? = some (.cells #[.int .u64 A.c, .bool A.o, .int .i64 (hi A.s), .int .u64 (lo A.s), .int .i64 A.mn, .int .i64 A.mx] 34)) := ⟨A2, hq4⟩
            have p0 := cell_rw hp4 0 (by simp)
            have p1 := cell_rw hp4 1 (by simp)
            have p2 := cell_rw hp4 2 (by simp)
            have p3 := cell_rw hp4 3 (by simp)
            have p4 := cell_rw hp4 4 (by simp)
            have p5 := cell_rw hp4 5 (by simp)
            simp only [List.getElem_toArray, List.getElem_cons_succ, List.getElem_cons_zero] at p0 p1 p2 p3 p4 p5
            have q0 := cell_rw hq4 0 (by simp)
            have q1 := cell_rw hq4 1 (by simp)
            have q2 := cell_rw hq4 2 (by simp)
            have q3 := cell_rw hq4 3 (by simp)
            have q4 := cell_rw hq4 4 (by simp)
            have q5 := cell_rw hq4 5 (by simp)
            simp only [List.getElem_toArray, List.getElem_cons_succ, List.getElem_cons_zero] at q0 q1 q2 q3 q4 q5
            clear hu4 hk4 HB3 HS3 HT3 HP3 HQ3 hp4 hq4 HOm
            go_wp2_with fail
            go_roundw
            case rel => exact ⟨r + 1, by go_num, by omega, HS4, HT4, HP4, HQ4, HB4⟩
            case measure => simp [intOf]; omega
          · have hrl' : ¬ (r : Int) < (N : Int) := by omega
            clear HPz HQz
            go_wp2_with fail
            refine (alive05_any wz).mono ?_
            rintro e u1 ⟨rfl, hbu⟩
            have HBu : Hid (Below W.heap.size W u1) := HB.out.trans (hbu.mono HB.out.size)
            have HSu : Hid (SK u1 W.heap.size L0 E true) := HS.out.below hbu
            have HTu : Hid (Tb u1 lo5 B (E.map nzE)) := HT.out.below hbu
            clear hbu HB HS HT
            go_wp2_with fail
            refine (all_anyS L0 E true _ _ HSu.out).mono ?_
            rintro e u2 ⟨v2, xs2, rfl, ho2, he2, hb2⟩
            have HB2 : Hid (Below W.heap.size W u2) := HBu.out.trans (hb2.mono HBu.out.size)
            have HT2 : Hid (Tb u2 lo5 B (E.map nzE)) := HTu.out.below hb2
            have ht2 := ho2.trd (by rw [he2]; exact HAgE.out)
            rw [he2] at ht2
            have Ht2 : Hid (TRd u2 v2 (E.map nzE)) := ht2
            obtain ⟨a2, c2, hv2, _⟩ := ho2.at
            subst hv2
            clear hb2 ho2 he2 ht2 HBu HSu HTu
            go_wp2_with fail
            refine (tall_any HT2.out).mono ?_
            rintro e u3 ⟨v3, zs3, rfl, hz3, hto3, hb3⟩
            have HB3 : Hid (Below W.heap.size W u3) := HB2.out.trans (hb3.mono HB2.out.size)
            have ht3 := hto3.reads
            rw [hz3] at ht3
            have HSm := same10_true _ v3 (E.map nzE) u3 (Ht2.out.below hb3) ht3
            obtain ⟨a3', c3', hv3', _⟩ := hto3.form
            subst hv3'
            have HSm : Hid (Calls Try.prog 17 #[_, _] u3 _) := HSm
            clear hb3 ht3 hto3 hz3 HB2 HT2 Ht2
            go_wp2_with fail
            refine HSm.out.mono ?_
            clear HSm
            rintro e u4 ⟨rfl, hb4⟩
            have HB4 : Hid (Below W.heap.size W u4) := HB3.out.trans (hb4.mono HB3.out.size)
            clear hb4
            go_wp2_with fail
            go_ret
            exact ⟨rfl, HB4.out⟩
      | false =>
        have HBA : Hid (Below W.heap.size W w9) := HB9.out
        have HSA : Hid (SK w9 W.heap.size L0 E true) := HS9.out
        have HTA : Hid (Tb w9 lo5 B (E.map nzE)) := HT9.out
        have HPA : Hid (∃ A : Ag, w9.heap[P]? = some (.cells #[.int .u64 A.c, .bool A.o, .int .i64 (hi A.s), .int .u64 (lo A.s), .int .i64 A.mn, .int .i64 A.mx] 34)) := HPe.out
        have HQA : Hid (∃ A : Ag, w9.heap[Q]? = some (.cells #[.int .u64 A.c, .bool A.o, .int .i64 (hi A.s), .int .u64 (lo A.s), .int .i64 A.mn, .int .i64 A.mx] 34)) := HQe.out
        go_wp2_with fail
        clear p0 p1 p2 p3 p4 p5 q0 q1 q2 q3 q4 q5 HB9 HS9 HT9 HPe HQe
        refine (seek_any L0 E true _ key m w9 _ HSA.out (HK.out.below HBA.out)).mono ?_
        rintro e wB ⟨vB, ys, rfl, hoB, hyB, hbB⟩
        have HBB : Hid (Below W.heap.size W wB) := HBA.out.trans (hbB.mono HBA.out.size)
        have HSB : Hid (SK wB W.heap.size L0 E true) := HSA.out.below hbB
        have HTB : Hid (Tb wB lo5 B (E.map nzE)) := HTA.out.below hbB
        have htB := hoB.trd (by rw [hyB]; exact fun x hx => HAgE.out x (List.mem_of_mem_drop (List.mem_of_mem_take hx)))
        rw [hyB] at htB
        obtain ⟨SL, HSL⟩ := hid_ex ((skF E key m).map nzE)
        rw [← HSL.out] at htB
        have HtB : Hid (TRd wB vB SL) := htB
        have HSe : Hid (Calls Try.prog 19 #[.pointer (some ⟨B, 0, none⟩), .slice ka KL kc9, .int .i64 m] wB (FiP wB SL)) := by
          have h := tseekI_any HTB.out _ key (HK.out.below HBB.out) m HM.out
          rw [sk_same HSB.out, ← HSL.out] at h
          exact h
        obtain ⟨aB, cB, hvB, _⟩ := hoB.at
        subst hvB
        have HPB : Hid (∃ A : Ag, wB.heap[P]? = some (.cells #[.int .u64 A.c, .bool A.o, .int .i64 (hi A.s), .int .u64 (lo A.s), .int .i64 A.mn, .int .i64 A.mx] 34)) := by obtain ⟨A, h⟩ := HPA.out; exact ⟨A, (hbB.block P (Array.getElem?_eq_some_iff.1 h).1).trans h⟩
        have HQB : Hid (∃ A : Ag, wB.heap[Q]? = some (.cells #[.int .u64 A.c, .bool A.o, .int .i64 (hi A.s), .int .u64 (lo A.s), .int .i64 A.mn, .int .i64 A.mx] 34)) := by obtain ⟨A, h⟩ := HQA.out; exact ⟨A, (hbB.block Q (Array.getElem?_eq_some_iff.1 h).1).trans h⟩
        clear hoB hyB hbB htB HSA HTA HBA HPA HQA HSL
        go_wp2_with fail
        refine HSe.out.mono ?_
        clear HSe
        rintro e wC ⟨vC, zs, rfl, hzs, htoC, hbC⟩
        have htC := htoC.reads
        rw [hzs] at htC
        have HSm := same10_true _ vC SL wC (HtB.out.below hbC) htC
        obtain ⟨aC, cC, hvC, _⟩ := htoC.form
        subst hvC
        have HSm : Hid (Calls Try.prog 17 #[_, _] wC _) := HSm
        have HBC : Hid (Below W.heap.size W wC) := HBB.out.trans (hbC.mono HBB.out.size)
        have HSC : Hid (SK wC W.heap.size L0 E true) := HSB.out.below hbC
        have HTC : Hid (Tb wC lo5 B (E.map nzE)) := HTB.out.below hbC
        have HPC : Hid (∃ A : Ag, wC.heap[P]? = some (.cells #[.int .u64 A.c, .bool A.o, .int .i64 (hi A.s), .int .u64 (lo A.s), .int .i64 A.mn, .int .i64 A.mx] 34)) := by obtain ⟨A, h⟩ := HPB.out; exact ⟨A, (hbC.block P (Array.getElem?_eq_some_iff.1 h).1).trans h⟩
        have HQC : Hid (∃ A : Ag, wC.heap[Q]? = some (.cells #[.int .u64 A.c, .bool A.o, .int .i64 (hi A.s), .int .u64 (lo A.s), .int .i64 A.mn, .int .i64 A.mx] 34)) := by obtain ⟨A, h⟩ := HQB.out; exact ⟨A, (hbC.block Q (Array.getElem?_eq_some_iff.1 h).1).trans h⟩
        clear hzs htoC hbC htC HtB HSB HTB HBB HPB HQB
        go_wp2_with fail
        refine HSm.out.mono ?_
        clear HSm
        rintro e wD ⟨rfl, hbD⟩
        have HBD : Hid (Below W.heap.size W wD) := HBC.out.trans (hbD.mono HBC.out.size)
        have HSD : Hid (SK wD W.heap.size L0 E true) := HSC.out.below hbD
        have HTD : Hid (Tb wD lo5 B (E.map nzE)) := HTC.out.below hbD
        have HPD : Hid (∃ A : Ag, wD.heap[P]? = some (.cells #[.int .u64 A.c, .bool A.o, .int .i64 (hi A.s), .int .u64 (lo A.s), .int .i64 A.mn, .int .i64 A.mx] 34)) := by obtain ⟨A, h⟩ := HPC.out; exact ⟨A, (hbD.block P (Array.getElem?_eq_some_iff.1 h).1).trans h⟩
        have HQD : Hid (∃ A : Ag, wD.heap[Q]? = some (.cells #[.int .u64 A.c, .bool A.o, .int .i64 (hi A.s), .int .u64 (lo A.s), .int .i64 A.mn, .int .i64 A.mx] 34)) := by obtain ⟨A, h⟩ := HQC.out; exact ⟨A, (hbD.block Q (Array.getElem?_eq_some_iff.1 h).1).trans h⟩
        clear hbD HSC HTC HBC HPC HQC
        go_wp2_with fail
        go_loopw [20] (fun i wr => ∃ (j : Nat), i = .int .i64 (j : Int) ∧ j ≤ N ∧ Hid (SK wr W.heap.size L0 E true) ∧ Hid (Tb wr lo5 B (E.map nzE)) ∧ Hid (∃ A : Ag, wr.heap[P]? = some (.cells #[.int .u64 A.c, .bool A.o, .int .i64 (hi A.s), .int .u64 (lo A.s), .int .i64 A.mn, .int .i64 A.mx] 34)) ∧ Hid (∃ A : Ag, wr.heap[Q]? = some (.cells #[.int .u64 A.c, .bool A.o, .int .i64 (hi A.s), .int .u64 (lo A.s), .int .i64 A.mn, .int .i64 A.mx] 34)) ∧ Hid (Below W.heap.size W wr)) (fun i _ => N - (intOf i).toNat)
        case atStart => exact ⟨0, rfl, by omega, HSD, HTD, HPD, HQD, HBD⟩
        case round =>
          rename World => wz
          clear HSD HTD HPD HQD HBD
          obtain ⟨r, rfl, hr, HS, HT, HPz, HQz, HB⟩ := hrel
          by_cases hrl : r < N
          · have hrl' : (r : Int) < (N : Int) := by omega
            have hjl : r < L.length := by rw [HN.out]; exact hrl
            obtain ⟨x, Hx⟩ := hid_ex L[r]
            obtain ⟨b, off, xkv, he, hbw, hcs, hrk, _⟩ := HR.out.at hjl Hx.out
            subst he
            obtain ⟨xk, A⟩ := x
            simp only at hcs hrk
            obtain ⟨xa, xc, rfl, _⟩ := hrk.form
            obtain ⟨XL, HXL⟩ : ∃ n, Hid (xk.length = n) := ⟨_, rfl⟩
            rw [HXL.out] at hcs hrk
            have hcW := hcs 0 (by decide)
            simp only [e7, List.getElem_cons_zero, Nat.add_zero] at hcW
            have HCw : Hid (b < W.heap.size ∧ W.cell? ⟨b, off + r * 7, none⟩ = some (.slice xa XL xc)) := ⟨hbw, hcW⟩
            have HRk : Hid (Reads W (.slice xa XL xc) xk) := hrk
            have c0 := (HB.out.cell (p := ⟨b, off + r * 7, none⟩) hbw).trans hcW
            have hg1 := sget_any HS.out _ xk (HRk.out.below HB.out)
            have hg2 : ∀ w0, Tb w0 lo5 B (E.map nzE) → Below W.heap.size W w0 → Calls Try.prog 15 #[.pointer (some ⟨B, 0, none⟩), .slice xa XL xc] w0 fun e w' => e = .returned (.tuple #[agv ((gtE E xk).getD agZ), .bool (gtE E xk).isSome]) ∧ Below w0.heap.size w0 w' := fun w0 h0 h1 => tgetE_any h0 HS.out _ xk (HRk.out.below h1)
            obtain ⟨A2, HA2⟩ := hid_ex ((gtE E xk).getD agZ)
            obtain ⟨b2, Hb2⟩ := hid_ex (gtE E xk).isSome
            rw [← HA2.out, ← Hb2.out] at hg1
            rw [← HA2.out, ← Hb2.out] at hg2
            unfold agv at hg1 hg2
            have HG1 : Hid (Calls Try.prog 14 #[.pointer (some ⟨L0, 0, none⟩), .slice xa XL xc] wz _) := hg1
            have HG2 : Hid _ := hg2
            have HOm : Hid (([.int .u64 A2.c, .bool A2.o, .int .i64 (hi A2.s), .int .u64 (lo A2.s), .int .i64 A2.mn, .int .i64 A2.mx] : List Value).toArray.all (·.oneCell') = true) := by unfold Hid; kernel_rfl
            clear hg1 hg2 HA2 Hb2 hcs hrk hcW hbw Hx HXL
            go_wp2_with fail
            refine HG1.out.mono ?_
            clear HG1
            rintro e u1 ⟨rfl, hbu⟩
            have HBu : Hid (Below W.heap.size W u1) := HB.out.trans (hbu.mono HB.out.size)
            have HSu : Hid (SK u1 W.heap.size L0 E true) := HS.out.below hbu
            have HTu : Hid (Tb u1 lo5 B (E.map nzE)) := HT.out.below hbu
            obtain ⟨Ap, hpz⟩ := HPz.out
            obtain ⟨Aq, hqz⟩ := HQz.out
            have HPu : Hid (u1.heap[P]? = some (.cells #[.int .u64 Ap.c, .bool Ap.o, .int .i64 (hi Ap.s), .int .u64 (lo Ap.s), .int .i64 Ap.mn, .int .i64 Ap.mx] 34)) := (hbu.block P (Array.getElem?_eq_some_iff.1 hpz).1).trans hpz
            have HQu : Hid (u1.heap[Q]? = some (.cells #[.int .u64 Aq.c, .bool Aq.o, .int .i64 (hi Aq.s), .int .u64 (lo Aq.s), .int .i64 Aq.mn, .int .i64 Aq.mx] 34)) := (hbu.block Q (Array.getElem?_eq_some_iff.1 hqz).1).trans hqz
            clear hpz hqz hbu HS HT HB HPz HQz c0
            go_wp2_with (refine stop_store 34 _ _ rfl ?_)
            refine Stop.of ?_
            refine wpList_storeN rfl _ _ _ rfl P 0 [.int .u64 A2.c, .bool A2.o, .int .i64 (hi A2.s), .int .u64 (lo A2.s), .int .i64 A2.mn, .int .i64 A2.mx] rfl rfl _ _ HPu.out (by simp) (by kernel_rfl) HOm.out ?_
            intro u2 hu2
            have hk2 := stW_kp hu2 HPu.out
            have HB2 : Hid (Below W.heap.size W u2) := HBu.out.trans (hu2.b _ HPQ.out.2)
            have HS2 : Hid (SK u2 W.heap.size L0 E true) := HSu.out.kpT hk2 (by decide) (by decide) (by decide)
            have HT2 : Hid (Tb u2 lo5 B (E.map nzE)) := HTu.out.kpS hk2 (by decide) (by decide) (by decide) (by decide)
            have HP2 : Hid (u2.heap[P]? = some (.cells #[.int .u64 A2.c, .bool A2.o, .int .i64 (hi A2.s), .int .u64 (lo A2.s), .int .i64 A2.mn, .int .i64 A2.mx] 34)) := stW_full hu2 (by simp)
            have HQ2 : Hid (u2.heap[Q]? = some (.cells #[.int .u64 Aq.c, .bool Aq.o, .int .i64 (hi Aq.s), .int .u64 (lo Aq.s), .int .i64 Aq.mn, .int .i64 Aq.mx] 34)) := (hu2.o Q (by have := HPQ.out.1; omega)).trans HQu.out
            have HG3 : Hid (Calls Try.prog 15 #[.pointer (some ⟨B, 0, none⟩), .slice xa XL xc] u2 _) := HG2.out u2 HT2.out HB2.out
            have c0 := (HB2.out.cell (p := ⟨b, off + r * 7, none⟩) HCw.out.1).trans HCw.out.2
            clear hu2 hk2 HBu HSu HTu HPu HQu HG2
            go_wp2_with fail
            refine HG3.out.mono ?_
            clear HG3
            rintro e u3 ⟨rfl, hb3⟩
            have HB3 : Hid (Below W.heap.size W u3) := HB2.out.trans (hb3.mono HB2.out.size)
            have HS3 : Hid (SK u3 W.heap.size L0 E true) := HS2.out.below hb3
            have HT3 : Hid (Tb u3 lo5 B (E.map nzE)) := HT2.out.below hb3
            have HP3 : Hid (u3.heap[P]? = some (.cells #[.int .u64 A2.c, .bool A2.o, .int .i64 (hi A2.s), .int .u64 (lo A2.s), .int .i64 A2.mn, .int .i64 A2.mx] 34)) := (hb3.block P (Array.getElem?_eq_some_iff.1 HP2.out).1).trans HP2.out
            have HQ3 : Hid (u3.heap[Q]? = some (.cells #[.int .u64 Aq.c, .bool Aq.o, .int .i64 (hi Aq.s), .int .u64 (lo Aq.s), .int .i64 Aq.mn, .int .i64 Aq.mx] 34)) := (hb3.block Q (Array.getElem?_eq_some_iff.1 HQ2.out).1).trans HQ2.out
            clear hb3 HB2 HS2 HT2 HP2 HQ2 c0
            go_wp2_with (refine stop_store 34 _ _ rfl ?_)
            refine Stop.of ?_
            refine wpList_storeN rfl _ _ _ rfl Q 0 [.int .u64 A2.c, .bool A2.o, .int .i64 (hi A2.s), .int .u64 (lo A2.s), .int .i64 A2.mn, .int .i64 A2.mx] rfl rfl _ _ HQ3.out (by simp) (by kernel_rfl) HOm.out ?_
            intro u4 hu4
            have hk4 := stW_kp hu4 HQ3.out
            have HB4 : Hid (Below W.heap.size W u4) := HB3.out.trans (hu4.b _ (by have := HPQ.out; omega))
            have HS4 : Hid (SK u4 W.heap.size L0 E true) := HS3.out.kpT hk4 (by decide) (by decide) (by decide)
            have HT4 : Hid (Tb u4 lo5 B (E.map nzE)) := HT3.out.kpS hk4 (by decide) (by decide) (by decide) (by decide)
            have hp4 : u4.heap[P]? = some (.cells #[.int .u64 A2.c, .bool A2.o, .int .i64 (hi A2.s), .int .u64 (lo A2.s), .int .i64 A2.mn, .int .i64 A2.mx] 34) := (hu4.o P (by have := HPQ.out.1; omega)).trans HP3.out
            have hq4 : u4.heap[Q]? = some (.cells #[.int .u64 A2.c, .bool A2.o, .int .i64 (hi A2.s), .int .u64 (lo A2.s), .int .i64 A2.mn, .int .i64 A2.mx] 34) := stW_full hu4 (by simp)
            have HP4 : Hid (∃ A : Ag, u4.heap[P]? = some (.cells #[.int .u64 A.c, .bool A.o, .int .i64 (hi A.s), .int .u64 (lo A.s), .int .i64 A.mn, .int .i64 A.mx] 34)) := ⟨A2, hp4⟩
            have HQ4 : Hid (∃ A : Ag, u4.heap[Q]? = some (.cells #[.int .u64 A.c, .bool A.o, .int .i64 (hi A.s), .int .u64 (lo A.s), .int .i64 A.mn, .int .i64 A.mx] 34)) := ⟨A2, hq4⟩
            have p0 := cell_rw hp4 0 (by simp)
            have p1 := cell_rw hp4 1 (by simp)
            have p2 := cell_rw hp4 2 (by simp)
            have p3 := cell_rw hp4 3 (by simp)
            have p4 := cell_rw hp4 4 (by simp)
            have p5 := cell_rw hp4 5 (by simp)
            simp only [List.getElem_toArray, List.getElem_cons_succ, List.getElem_cons_zero] at p0 p1 p2 p3 p4 p5
            have q0 := cell_rw hq4 0 (by simp)
            have q1 := cell_rw hq4 1 (by simp)
            have q2 := cell_rw hq4 2 (by simp)
            have q3 := cell_rw hq4 3 (by simp)
            have q4 := cell_rw hq4 4 (by simp)
            have q5 := cell_rw hq4 5 (by simp)
            simp only [List.getElem_toArray, List.getElem_cons_succ, List.getElem_cons_zero] at q0 q1 q2 q3 q4 q5
            clear hu4 hk4 HB3 HS3 HT3 HP3 HQ3 hp4 hq4 HOm
            go_wp2_with fail
            go_roundw
            case rel => exact ⟨r + 1, by go_num, by omega, HS4, HT4, HP4, HQ4, HB4⟩
            case measure => simp [intOf]; omega
          · have hrl' : ¬ (r : Int) < (N : Int) := by omega
            clear HPz HQz
            go_wp2_with fail
            refine (alive05_any wz).mono ?_
            rintro e u1 ⟨rfl, hbu⟩
            have HBu : Hid (Below W.heap.size W u1) := HB.out.trans (hbu.mono HB.out.size)
            have HSu : Hid (SK u1 W.heap.size L0 E true) := HS.out.below hbu
            have HTu : Hid (Tb u1 lo5 B (E.map nzE)) := HT.out.below hbu
            clear hbu HB HS HT
            go_wp2_with fail
            refine (all_anyS L0 E true _ _ HSu.out).mono ?_
            rintro e u2 ⟨v2, xs2, rfl, ho2, he2, hb2⟩
            have HB2 : Hid (Below W.heap.size W u2) := HBu.out.trans (hb2.mono HBu.out.size)
            have HT2 : Hid (Tb u2 lo5 B (E.map nzE)) := HTu.out.below hb2
            have ht2 := ho2.trd (by rw [he2]; exact HAgE.out)
            rw [he2] at ht2
            have Ht2 : Hid (TRd u2 v2 (E.map nzE)) := ht2
            obtain ⟨a2, c2, hv2, _⟩ := ho2.at
            subst hv2
            clear hb2 ho2 he2 ht2 HBu HSu HTu
            go_wp2_with fail
            refine (tall_any HT2.out).mono ?_
            rintro e u3 ⟨v3, zs3, rfl, hz3, hto3, hb3⟩
            have HB3 : Hid (Below W.heap.size W u3) := HB2.out.trans (hb3.mono HB2.out.size)
            have ht3 := hto3.reads
            rw [hz3] at ht3
            have HSm := same10_true _ v3 (E.map nzE) u3 (Ht2.out.below hb3) ht3
            obtain ⟨a3', c3', hv3', _⟩ := hto3.form
            subst hv3'
            have HSm : Hid (Calls Try.prog 17 #[_, _] u3 _) := HSm
            clear hb3 ht3 hto3 hz3 HB2 HT2 Ht2
            go_wp2_with fail
            refine HSm.out.mono ?_
            clear HSm
            rintro e u4 ⟨rfl, hb4⟩
            have HB4 : Hid (Below W.heap.size W u4) := HB3.out.trans (hb4.mono HB3.out.size)
            clear hb4
            go_wp2_with fail
            go_ret
            exact ⟨rfl, HB4.out⟩
theorem toptable_wf (v : Value) (L : List Et) (hv : Value) (hs : List UInt8) (kv : Value) (key : List UInt8) (m : Int) (W : World) (hR : TRd W v L) (hH : Reads W hv hs) (hK : Reads W kv key) (h1 : (Lit.int .i64 m).wf = true) : Calls Try.prog 3 #[v, hv, kv, .int .i64 m] W fun e W' => e = .returned (.bool true) ∧ Below W.heap.size W W' :=
  toptable_walk v L hv hs kv key m (bounds_i64 h1).2 W hR hH hK
end Go.Proofs.Ytopemhlkjicjpaa
