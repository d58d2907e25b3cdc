/- TLt, joined. -/
import Derived.Test.YtldifjfcgcmfiaaTD35
/- TableTurned's walk (written by mktlt.py from TLt.base). -/
namespace Go.Proofs.Ytldifjfcgcmfiaa
open Go.RowKit

theorem x8T (x y : UInt8) : bits .xor .u8 (x.toNat : Int) (y.toNat : Int) = ((UInt8.ofNat (x.toNat ^^^ y.toNat)).toNat : Int) := by
  rw [u8_xor_nat _ _ x.toNat_lt y.toNat_lt, UInt8.toNat_ofNat', Nat.mod_eq_of_lt (Nat.xor_lt_two_pow x.toNat_lt y.toNat_lt)]
theorem x8b (x y : UInt8) : UInt8.ofNat ((UInt8.ofNat (x.toNat ^^^ y.toNat)).toNat ^^^ y.toNat) = x := by
  have hx := x.toNat_lt
  have hy := y.toNat_lt
  have h1 : x.toNat ^^^ y.toNat < 2 ^ 8 := Nat.xor_lt_two_pow (by omega) (by omega)
  have h2 : (UInt8.ofNat (x.toNat ^^^ y.toNat)).toNat = x.toNat ^^^ y.toNat := by rw [UInt8.toNat_ofNat']; exact Nat.mod_eq_of_lt h1
  rw [h2, Nat.xor_assoc, Nat.xor_self, Nat.xor_zero]
  exact UInt8.ofNat_toNat ..
theorem x8n {x y : UInt8} (h : y.toNat ≠ 0) : UInt8.ofNat (x.toNat ^^^ y.toNat) ≠ x := by
  intro e
  have hx := x.toNat_lt
  have hy := y.toNat_lt
  have h1 : x.toNat ^^^ y.toNat < 2 ^ 8 := Nat.xor_lt_two_pow (by omega) (by omega)
  have h2 := congrArg UInt8.toNat e
  rw [UInt8.toNat_ofNat', Nat.mod_eq_of_lt h1] at h2
  have h3 : x.toNat ^^^ (x.toNat ^^^ y.toNat) = 0 := by rw [h2, Nat.xor_self]
  rw [← Nat.xor_assoc, Nat.xor_self, Nat.zero_xor] at h3
  exact h h3
theorem own_take {w : World} {base g n cap : Nat} {l : List UInt8} (h : Own w base (.slice (some ⟨g, 0, none⟩) n cap) l) (h0 : 0 < l.length) {c : Nat} (hc : c ≤ l.length) : Reads w (.slice (some ⟨g, 0, none⟩) c cap) (l.take c) := by
  obtain ⟨g', cap', he, h1, h2, h3, h4⟩ := h.some h0
  simp only [Value.slice.injEq, Option.some.injEq, Addr.mk.injEq, and_true] at he
  obtain ⟨rfl, rfl, rfl⟩ := he
  exact reads_take (b := g) (off := 0) c hc h3 h4 h2 (fun j hj => by rw [Nat.zero_add]; exact (h.at j hj).1)
theorem di_set (T : List UInt8) (i : Nat) (y : UInt8) : Di i T (T.set i y) := ⟨by simp, fun k hk => by rw [List.getElem?_set_ne (fun e => hk e.symm)]⟩
set_option maxRecDepth 100000 in
set_option maxHeartbeats 4000000 in
theorem turned10_walk (v : Value) (L : List Et) (a1 : Int) (a2 : Int) (ct : Int) (W : World) (hR : TRd W v L) (ha1 : -9223372036854775808 ≤ a1 ∧ a1 ≤ 9223372036854775807) (ha2 : 0 ≤ a2 ∧ a2 ≤ 255) (hcut : -9223372036854775808 ≤ ct ∧ ct ≤ 9223372036854775807) : Calls Try.prog 5 #[v, .int .i64 a1, .int .u8 a2, .int .i64 ct] W fun e W' => e = .returned (.bool true) ∧ Below W.heap.size W W' := by
  obtain ⟨by1, rfl⟩ : ∃ y : UInt8, a2 = (y.toNat : Int) := ⟨UInt8.ofNat a2.toNat, by rw [UInt8.toNat_ofNat']; omega⟩
  obtain ⟨a, cap, rfl, hc, hm⟩ : ∃ a cap, v = .slice a L.length cap ∧ L.length ≤ cap ∧ cap ≤ maxLen := by obtain ⟨a, cap, h1, h2, h3, _⟩ := hR; exact ⟨a, cap, h1, h2, h3⟩
  unfold maxLen at hm
  have HGr : Hid (Calls Try.prog 7 #[.slice a L.length cap] W _) := great10_any _ L W hR
  have HWr : Hid (Calls Try.prog 9 #[.slice a L.length cap] W _) := twrite_all _ L W hR
  obtain ⟨N, HN⟩ : ∃ n, Hid (L.length = n) := ⟨_, rfl⟩
  rw [HN.out] at HGr HWr hc ⊢
  obtain ⟨G, HG⟩ := hid_ex (grB L)
  rw [← HG.out] at HGr
  clear hR HG ha2
  go_enter Try.func5, Try.ntmps5
  go_wp2_with fail
  refine HGr.out.mono ?_
  clear HGr
  rintro e w0 ⟨rfl, rfl⟩
  cases G with
  | true =>
    go_wp2_with fail
    refine (alive10_any w0).mono ?_
    rintro e w1 ⟨rfl, hb1⟩
    go_wp2_with fail
    go_ret
    exact ⟨rfl, hb1⟩
  | false =>
    by_cases hN : 80 < N
    · have hN' : (80 : Int) < (N : Int) := by omega
      go_wp2_with fail
      refine (alive10_any w0).mono ?_
      rintro e w1 ⟨rfl, hb1⟩
      go_wp2_with fail
      go_ret
      exact ⟨rfl, hb1⟩
    · have hN' : ¬ (80 : Int) < (N : Int) := by omega
      obtain ⟨E, HE⟩ := hid_ex (twE L)
      obtain ⟨T, HT⟩ := hid_ex (twB L)
      rw [← HE.out, ← HT.out] at HWr
      go_wp2_with fail
      refine HWr.out.mono ?_
      clear HWr
      rintro e w1 ⟨v1, rfl, ho1, hb1⟩
      have HB1 : Hid (Below w0.heap.size w0 w1) := hb1
      by_cases hE : E = 0
      · subst hE
        have HE0 : Hid (twE L = 0) := HE.out.symm
        have HTb : Hid (T.length ≤ 1000000) := by unfold Hid; rw [HT.out]; exact twB_len HE0.out (by rw [HN.out]; omega)
        have hTp : 0 < T.length := by
          rw [HT.out]; unfold twB; rw [if_pos HE0.out]
          have := cat_ge (tabL L)
          rw [tabL_len] at this; omega
        obtain ⟨g, c0, rfl, hg⟩ := ho1.some hTp
        obtain ⟨TL, HTL⟩ : ∃ n, Hid (T.length = n) := ⟨_, rfl⟩
        rw [HTL.out] at ho1 ⊢
        have HO1 : Hid (Own w1 w0.heap.size (.slice (some ⟨g, 0, none⟩) TL c0) T) := ho1
        have hcc : TL ≤ c0 := by have := hg.2.2.1; rw [HTL.out] at this; exact this
        have hTL : TL ≤ 1000000 := by rw [← HTL.out]; exact HTb.out
        have HTp : Hid (0 < T.length) := hTp
        clear ho1 hb1 HE hTp
        by_cases q1 : 0 ≤ a1
        · by_cases q2 : a1 < (TL : Int)
          · by_cases q3 : by1.toNat = 0
            · have q3' : ((by1.toNat : Int) != 0) = false := by simp [q3]
              by_cases c1 : ct < 0
              · go_wp2_with fail
                refine (alive10_any w1).mono ?_
                rintro e w9 ⟨rfl, hb9⟩
                have HB9 : Hid (Below w0.heap.size w0 w9) := HB1.out.trans (hb9.mono HB1.out.size)
                clear hb9
                go_wp2_with fail
                go_ret
                exact ⟨rfl, HB9.out⟩
              · by_cases c2 : (TL : Int) ≤ ct
                · go_wp2_with fail
                  refine (alive10_any w1).mono ?_
                  rintro e w9 ⟨rfl, hb9⟩
                  have HB9 : Hid (Below w0.heap.size w0 w9) := HB1.out.trans (hb9.mono HB1.out.size)
                  clear hb9
                  go_wp2_with fail
                  go_ret
                  exact ⟨rfl, HB9.out⟩
                · obtain ⟨c, rfl⟩ : ∃ n : Nat, ct = n := ⟨ct.toNat, by omega⟩
                  have hcT : c < TL := by omega
                  have hRs := own_take HO1.out HTp.out (c := c) (by rw [HTL.out]; omega)
                  have hOp := topen_any _ (T.take c) w1 hRs (by rw [List.length_take]; have := HTb.out; omega)
                  have HOp2 : Hid (Calls Try.prog 10 #[.slice (some ⟨g, 0, none⟩) c c0] w1 fun e w' => Below w1.heap.size w1 w' ∧ e = .returned (.tuple #[.pointer none, .int .i64 70])) := by
                    refine hOp.mono ?_
                    rintro e w' ⟨h1, ⟨h2, _⟩ | ⟨_, h2⟩⟩
                    · exact (cut_none HE0.out h2.2.1 (by rw [← HT.out, HTL.out]; exact hcT) (by rw [h2.2.2, HT.out])).elim
                    · exact ⟨h1, h2⟩
                  clear hOp hRs
                  go_wp2_with fail
                  refine HOp2.out.mono ?_
                  clear HOp2
                  rintro e w8 ⟨hb8, rfl⟩
                  have HB8 : Hid (Below w0.heap.size w0 w8) := HB1.out.trans (hb8.mono HB1.out.size)
                  clear hb8
                  go_wp2_with fail
                  refine (alive10_any w8).mono ?_
                  rintro e w9 ⟨rfl, hb9⟩
                  have HB9 : Hid (Below w0.heap.size w0 w9) := HB8.out.trans (hb9.mono HB8.out.size)
                  clear hb9
                  go_wp2_with fail
                  go_ret
                  exact ⟨rfl, HB9.out⟩
            · have q3' : ((by1.toNat : Int) != 0) = true := by simp [q3]
              obtain ⟨i, rfl⟩ : ∃ n : Nat, a1 = n := ⟨a1.toNat, by omega⟩
              have hiT : i < T.length := by rw [HTL.out]; omega
              obtain ⟨x, Hx⟩ := hid_ex T[i]
              obtain ⟨y, Hy⟩ := hid_ex (UInt8.ofNat (x.toNat ^^^ by1.toNat))
              obtain ⟨d1, d2⟩ := HO1.out.at i hiT
              rw [← Hx.out] at d1
              unfold bc at d1
              have hx8 : bits .xor .u8 (x.toNat : Int) (by1.toNat : Int) = (y.toNat : Int) := by rw [Hy.out]; exact x8T x by1
              have hst := (HO1.out.stored i y).1
              unfold bc at hst
              have hb2 : Below w0.heap.size w1 (w1.setCell ⟨g, i, none⟩ (.int .u8 (y.toNat : Int))) := (Below.refl _ _).setCell (p := ⟨g, i, none⟩) hg.1 _
              obtain ⟨w2, HW2⟩ := hid_ex (w1.setCell ⟨g, i, none⟩ (.int .u8 (y.toNat : Int)))
              rw [← HW2.out] at hst hb2
              have HO2 : Hid (Own w2 w0.heap.size (.slice (some ⟨g, 0, none⟩) TL c0) (T.set i y)) := hst
              have HB2 : Hid (Below w0.heap.size w0 w2) := HB1.out.trans hb2
              have hOp := topen_any _ (T.set i y) w2 HO2.out.reads (by rw [List.length_set]; exact HTb.out)
              have HOp : Hid (Calls Try.prog 10 #[.slice (some ⟨g, 0, none⟩) TL c0] w2 fun e w' => Below w2.heap.size w2 w' ∧ e = .returned (.tuple #[.pointer none, .int .i64 70])) := by
                refine hOp.mono ?_
                rintro e w' ⟨h1, ⟨h2, _⟩ | ⟨_, h2⟩⟩
                · exfalso
                  have hd : Di i (twB L) (twB (opL (T.set i y))) := by rw [h2.2.2, ← HT.out]; exact di_set T i y
                  have he := turned_none HE0.out h2.2.1 hd
                  rw [h2.2.2, ← HT.out] at he
                  have he2 : (T.set i y)[i]'(by rw [List.length_set]; exact hiT) = T[i] := by simp only [← he]
                  rw [List.getElem_set_self, ← Hx.out, Hy.out] at he2
                  exact x8n q3 he2
                · exact ⟨h1, h2⟩
              clear hst hb2 hOp
              go_wp2_with fail
              rw [← HW2.out]
              refine HOp.out.mono ?_
              clear HOp HW2 d1 d2
              rintro e w3 ⟨hb3, rfl⟩
              have HB3 : Hid (Below w0.heap.size w0 w3) := HB2.out.trans (hb3.mono HB2.out.size)
              have HO3 : Hid (Own w3 w0.heap.size (.slice (some ⟨g, 0, none⟩) TL c0) (T.set i y)) := HO2.out.below hb3
              obtain ⟨d1, d2⟩ := HO3.out.at i (by rw [List.length_set]; exact hiT)
              rw [List.getElem_set_self] at d1
              unfold bc at d1
              have hx8' : bits .xor .u8 (y.toNat : Int) (by1.toNat : Int) = (x.toNat : Int) := by rw [x8T, Hy.out, x8b]
              have hst := (HO3.out.stored i x).1
              unfold bc at hst
              rw [List.set_set, Hx.out, List.set_getElem_self] at hst
              have hb4 : Below w0.heap.size w3 (w3.setCell ⟨g, i, none⟩ (.int .u8 (x.toNat : Int))) := (Below.refl _ _).setCell (p := ⟨g, i, none⟩) hg.1 _
              rw [← Hx.out] at hst
              obtain ⟨w4, HW4⟩ := hid_ex (w3.setCell ⟨g, i, none⟩ (.int .u8 (x.toNat : Int)))
              rw [← HW4.out] at hst hb4
              have HO4 : Hid (Own w4 w0.heap.size (.slice (some ⟨g, 0, none⟩) TL c0) T) := hst
              have HB4 : Hid (Below w0.heap.size w0 w4) := HB3.out.trans hb4
              clear hst hb4 hb3 hx8 HO2 HB2
              by_cases c1 : ct < 0
              · go_wp2_with fail
                rw [← HW4.out]
                refine (alive10_any w4).mono ?_
                rintro e w9 ⟨rfl, hb9⟩
                have HB9 : Hid (Below w0.heap.size w0 w9) := HB4.out.trans (hb9.mono HB4.out.size)
                clear hb9
                go_wp2_with fail
                go_ret
                exact ⟨rfl, HB9.out⟩
              · by_cases c2 : (TL : Int) ≤ ct
                · go_wp2_with fail
                  rw [← HW4.out]
                  refine (alive10_any w4).mono ?_
                  rintro e w9 ⟨rfl, hb9⟩
                  have HB9 : Hid (Below w0.heap.size w0 w9) := HB4.out.trans (hb9.mono HB4.out.size)
                  clear hb9
                  go_wp2_with fail
                  go_ret
                  exact ⟨rfl, HB9.out⟩
                · obtain ⟨c, rfl⟩ : ∃ n : Nat, ct = n := ⟨ct.toNat, by omega⟩
                  have hcT : c < TL := by omega
                  have hRs := own_take HO4.out HTp.out (c := c) (by rw [HTL.out]; omega)
                  have hOp := topen_any _ (T.take c) w4 hRs (by rw [List.length_take]; have := HTb.out; omega)
                  have HOp2 : Hid (Calls Try.prog 10 #[.slice (some ⟨g, 0, none⟩) c c0] w4 fun e w' => Below w4.heap.size w4 w' ∧ e = .returned (.tuple #[.pointer none, .int .i64 70])) := by
                    refine hOp.mono ?_
                    rintro e w' ⟨h1, ⟨h2, _⟩ | ⟨_, h2⟩⟩
                    · exact (cut_none HE0.out h2.2.1 (by rw [← HT.out, HTL.out]; exact hcT) (by rw [h2.2.2, HT.out])).elim
                    · exact ⟨h1, h2⟩
                  clear hOp hRs
                  go_wp2_with fail
                  rw [← HW4.out]
                  refine HOp2.out.mono ?_
                  clear HOp2
                  rintro e w8 ⟨hb8, rfl⟩
                  have HB8 : Hid (Below w0.heap.size w0 w8) := HB4.out.trans (hb8.mono HB4.out.size)
                  clear hb8
                  go_wp2_with fail
                  refine (alive10_any w8).mono ?_
                  rintro e w9 ⟨rfl, hb9⟩
                  have HB9 : Hid (Below w0.heap.size w0 w9) := HB8.out.trans (hb9.mono HB8.out.size)
                  clear hb9
                  go_wp2_with fail
                  go_ret
                  exact ⟨rfl, HB9.out⟩
          · have q2' : ¬ a1 < (TL : Int) := q2
            by_cases c1 : ct < 0
            · go_wp2_with fail
              refine (alive10_any w1).mono ?_
              rintro e w9 ⟨rfl, hb9⟩
              have HB9 : Hid (Below w0.heap.size w0 w9) := HB1.out.trans (hb9.mono HB1.out.size)
              clear hb9
              go_wp2_with fail
              go_ret
              exact ⟨rfl, HB9.out⟩
            · by_cases c2 : (TL : Int) ≤ ct
              · go_wp2_with fail
                refine (alive10_any w1).mono ?_
                rintro e w9 ⟨rfl, hb9⟩
                have HB9 : Hid (Below w0.heap.size w0 w9) := HB1.out.trans (hb9.mono HB1.out.size)
                clear hb9
                go_wp2_with fail
                go_ret
                exact ⟨rfl, HB9.out⟩
              · obtain ⟨c, rfl⟩ : ∃ n : Nat, ct = n := ⟨ct.toNat, by omega⟩
                have hcT : c < TL := by omega
                have hRs := own_take HO1.out HTp.out (c := c) (by rw [HTL.out]; omega)
                have hOp := topen_any _ (T.take c) w1 hRs (by rw [List.length_take]; have := HTb.out; omega)
                have HOp2 : Hid (Calls Try.prog 10 #[.slice (some ⟨g, 0, none⟩) c c0] w1 fun e w' => Below w1.heap.size w1 w' ∧ e = .returned (.tuple #[.pointer none, .int .i64 70])) := by
                  refine hOp.mono ?_
                  rintro e w' ⟨h1, ⟨h2, _⟩ | ⟨_, h2⟩⟩
                  · exact (cut_none HE0.out h2.2.1 (by rw [← HT.out, HTL.out]; exact hcT) (by rw [h2.2.2, HT.out])).elim
                  · exact ⟨h1, h2⟩
                clear hOp hRs
                go_wp2_with fail
                refine HOp2.out.mono ?_
                clear HOp2
                rintro e w8 ⟨hb8, rfl⟩
                have HB8 : Hid (Below w0.heap.size w0 w8) := HB1.out.trans (hb8.mono HB1.out.size)
                clear hb8
                go_wp2_with fail
                refine (alive10_any w8).mono ?_
                rintro e w9 ⟨rfl, hb9⟩
                have HB9 : Hid (Below w0.heap.size w0 w9) := HB8.out.trans (hb9.mono HB8.out.size)
                clear hb9
                go_wp2_with fail
                go_ret
                exact ⟨rfl, HB9.out⟩
        · have q1' : ¬ 0 ≤ a1 := q1
          by_cases c1 : ct < 0
          · go_wp2_with fail
            refine (alive10_any w1).mono ?_
            rintro e w9 ⟨rfl, hb9⟩
            have HB9 : Hid (Below w0.heap.size w0 w9) := HB1.out.trans (hb9.mono HB1.out.size)
            clear hb9
            go_wp2_with fail
            go_ret
            exact ⟨rfl, HB9.out⟩
          · by_cases c2 : (TL : Int) ≤ ct
            · go_wp2_with fail
              refine (alive10_any w1).mono ?_
              rintro e w9 ⟨rfl, hb9⟩
              have HB9 : Hid (Below w0.heap.size w0 w9) := HB1.out.trans (hb9.mono HB1.out.size)
              clear hb9
              go_wp2_with fail
              go_ret
              exact ⟨rfl, HB9.out⟩
            · obtain ⟨c, rfl⟩ : ∃ n : Nat, ct = n := ⟨ct.toNat, by omega⟩
              have hcT : c < TL := by omega
              have hRs := own_take HO1.out HTp.out (c := c) (by rw [HTL.out]; omega)
              have hOp := topen_any _ (T.take c) w1 hRs (by rw [List.length_take]; have := HTb.out; omega)
              have HOp2 : Hid (Calls Try.prog 10 #[.slice (some ⟨g, 0, none⟩) c c0] w1 fun e w' => Below w1.heap.size w1 w' ∧ e = .returned (.tuple #[.pointer none, .int .i64 70])) := by
                refine hOp.mono ?_
                rintro e w' ⟨h1, ⟨h2, _⟩ | ⟨_, h2⟩⟩
                · exact (cut_none HE0.out h2.2.1 (by rw [← HT.out, HTL.out]; exact hcT) (by rw [h2.2.2, HT.out])).elim
                · exact ⟨h1, h2⟩
              clear hOp hRs
              go_wp2_with fail
              refine HOp2.out.mono ?_
              clear HOp2
              rintro e w8 ⟨hb8, rfl⟩
              have HB8 : Hid (Below w0.heap.size w0 w8) := HB1.out.trans (hb8.mono HB1.out.size)
              clear hb8
              go_wp2_with fail
              refine (alive10_any w8).mono ?_
              rintro e w9 ⟨rfl, hb9⟩
              have HB9 : Hid (Below w0.heap.size w0 w9) := HB8.out.trans (hb9.mono HB8.out.size)
              clear hb9
              go_wp2_with fail
              go_ret
              exact ⟨rfl, HB9.out⟩
      · have hE2 : (E != 0) = true := by simpa using hE
        obtain ⟨a1', c1', rfl, _⟩ := ho1.form
        clear ho1 hb1 HE HT
        go_wp2_with fail
        refine (alive10_any w1).mono ?_
        rintro e w2 ⟨rfl, hb2⟩
        have HB2 : Hid (Below w0.heap.size w0 w2) := HB1.out.trans (hb2.mono HB1.out.size)
        clear hb2
        go_wp2_with fail
        go_ret
        exact ⟨rfl, HB2.out⟩
end Go.Proofs.Ytldifjfcgcmfiaa
