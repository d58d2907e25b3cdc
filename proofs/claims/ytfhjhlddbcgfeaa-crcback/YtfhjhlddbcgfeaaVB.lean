/- The walk of CrcBack. -/
import Derived.Test.YtfhjhlddbcgfeaaF6
namespace Go.Proofs.Ytfhjhlddbcgfeaa
open Go.RowKit

theorem infoI : (Try.prog.info? 3).map (fun i => (i.zero, i.size, i.bytes)) = some (some (.int .i64 0), 1, 8) := by kernel_rfl
/-- The ends of the first k frames. -/
def ens (L : List (List UInt8)) (k : Nat) : List Value := (List.range k).map fun j => .int .i64 (en L (j + 1) : Nat)
theorem ens_succ (L : List (List UInt8)) (k : Nat) : ens L (k + 1) = ens L k ++ [.int .i64 (en L (k + 1) : Nat)] := by
  unfold ens; rw [List.range_succ, List.map_append]; rfl
theorem mem_at (L : List (List UInt8)) (k : Nat) (h : k < L.length) : L[k] ∈ L.take (k + 1) := by
  rw [List.take_add_one, List.getElem?_eq_getElem h]; exact List.mem_append_right _ (by simp)
theorem en_le (L : List (List UInt8)) : ∀ k, k ≤ L.length → (∀ l ∈ L.take k, l.length ≤ 300) → en L k ≤ 308 * k := by
  intro k
  induction k with
  | zero => intro _ _; simp [en_zero]
  | succ k ih =>
    intro h hl
    rw [en_snoc L k (by omega)]
    have h1 := ih (by omega) (fun l hm => hl l (by rw [List.take_add_one]; exact List.mem_append_left _ hm))
    have h2 := hl _ (mem_at L k (by omega))
    omega
theorem ends_at {w : World} {base : Nat} {v : Value} {k : Nat} {L : List (List UInt8)} (h : w.ownsRow base 3 1 v k (ens L k)) :
    ∃ a cap, v = .slice a k cap ∧ (0 < k → ∃ g, a = some ⟨g, 0, none⟩ ∧ g < w.heap.size ∧ ∀ j, j < k → w.cell? ⟨g, j, none⟩ = some (.int .i64 (en L (j + 1) : Nat))) := by
  have hlt := World.ownsRow.lt h
  rcases h.2 with ⟨h1, h2⟩ | ⟨g, cap, cur, hv, hg, hw, hc, hm, _⟩
  · exact ⟨none, 0, by rw [h1, h2], fun h0 => by omega⟩
  · subst hv
    refine ⟨_, cap, rfl, fun _ => ⟨g, rfl, (hlt g rfl).2, fun j hj => ?_⟩⟩
    rw [World.ownsRow.cellAt h j (by simpa [ens] using hj)]
    simp [ens, hj]
set_option maxRecDepth 100000 in
set_option maxHeartbeats 1000000 in
theorem back_walk (v : Value) (L : List (List UInt8)) (c : Int) (w : World) (hL : LReads w v L) (hc : (Lit.int .i64 c).wf = true) :
    Calls Try.prog 7 #[v, .int .i64 c] w fun e w' => e = .returned (.bool true) ∧ Below w.heap.size w w' := by
  have hc2 := bounds_i64 hc
  clear hc
  have HL : Hid (LReads w v L) := hL
  obtain ⟨a, cap, rfl, hcap, hm, hL3⟩ := hL
  unfold maxLen at hm
  by_cases g : (20 : Int) < (L.length : Int)
  · clear hL3
    go_enter Try.func7, Try.ntmps7
    go_wp2_with fail
    refine (alive_any _).mono ?_
    rintro e w1 ⟨rfl, hb1⟩
    go_wp2_with fail
    go_ret
    exact ⟨rfl, hb1⟩
  · have HL3 : Hid _ := hL3
    clear hL3
    go_enter Try.func7, Try.ntmps7
    go_wp2_with fail
    go_loopw [5, 6, 7] (fun v5 v6 i wr => ∃ k : Nat, k ≤ L.length ∧ i = .int .i64 (k : Int) ∧ Hid (∀ l ∈ L.take k, l.length ≤ 300) ∧ Hid (Own wr w.heap.size v5 (cat (L.take k))) ∧ Hid (wr.ownsRow w.heap.size 3 1 v6 k (ens L k)) ∧ Hid (Below w.heap.size w wr)) (fun _ _ i _ => L.length - (intOf i).toNat)
    case atStart => exact ⟨0, by omega, rfl, (fun l hl => by simp at hl), Own.nil _ _, World.ownsRow_nil _ _ _ _, Below.refl _ _⟩
    case round =>
      obtain ⟨k, hk, rfl, HS, HO, HE, HB⟩ := hrel
      by_cases hlt : k < L.length
      · obtain ⟨bA, oA, rfl, hbA, hA⟩ := HL3.out.resolve_left (fun h => by rw [h] at hlt; simp at hlt)
        obtain ⟨vx, hx1, hx2⟩ := hA k hlt
        obtain ⟨X, HX⟩ := hid_ex L[k]
        rw [← HX.out] at hx2
        obtain ⟨ax, cx, rfl, _⟩ := hx2.form
        have hcx := (HB.out.cell (p := ⟨bA, oA + k, none⟩) hbA).trans hx1
        have HRX : Hid (Reads _ (.slice ax X.length cx) X) := hx2.below HB.out
        clear hA hx1 hx2
        by_cases gX : (300 : Int) < (X.length : Int)
        · clear HS HO HE HX HRX
          go_wp2_with fail
          refine (alive_any _).mono ?_
          rintro e w1 ⟨rfl, hb1⟩
          have HB1 : Hid (Below w.heap.size w w1) := HB.out.trans (hb1.mono HB.out.size)
          clear hb1
          go_wp2_with fail
          go_ret
          exact ⟨rfl, HB1.out⟩
        · go_wp2_with fail
          refine (frame_any _ X (by omega) _ HRX.out).mono ?_
          rintro e w1 ⟨v1, rfl, HO1, hb1⟩
          have HB1 : Hid (Below w.heap.size w w1) := HB.out.trans (hb1.mono HB.out.size)
          have HP1 : Hid (Own w1 w.heap.size _ (cat (L.take k))) := HO.out.below hb1
          have HE1 : Hid (w1.ownsRow w.heap.size 3 1 _ k (ens L k)) := row_kc HE.out (Kc.of_below hb1 HB.out.size)
          have hrf : Reads w1 v1 (frm X) := HO1.reads
          have hfl := frm_len X
          have hel := en_le L k hk HS.out
          have hcl : (cat (L.take k)).length = en L k := rfl
          obtain ⟨M, HM⟩ := hid_ex (cat (L.take (k + 1)))
          have HM2 : Hid (M = cat (L.take k) ++ frm X) := by rw [HM.out, cat_snoc L k hlt, ← HX.out]; exact rfl
          have HML : Hid (M.length = en L (k + 1)) := by rw [HM.out]; exact rfl
          have hml : M.length ≤ 1000000 := by rw [HM2.out, List.length_append, hfl, hcl]; omega
          have HS2 : Hid (∀ l ∈ L.take (k + 1), l.length ≤ 300) := by
            intro l hl
            rw [List.take_add_one, List.getElem?_eq_getElem hlt] at hl
            rcases List.mem_append.1 hl with hl | hl
            · exact HS.out l hl
            · simp at hl; rw [hl, ← HX.out]; omega
          have hsz1 := HB1.out.size
          clear hb1 HO1 HRX hcx HO HE HB HS
          go_wp2_with (at_builtin; refine wpList_app_g rfl _ _ rfl w.heap.size _ _ (cat (L.take k)) (frm X) M HM2.out (by omega) rfl rfl HP1.out hrf (by omega) hsz1 ?_)
          intro v2 w2 HO2 hg2 hb2
          have HB2 : Hid (Below w.heap.size w w2) := HB1.out.trans hb2.out
          have HE2 : Hid (w2.ownsRow w.heap.size 3 1 _ k (ens L k)) := row_grown HP1.out HE1.out (by decide) hg2.out
          obtain ⟨a2, c2, rfl, _⟩ := HO2.form
          have HO2' : Hid _ := HO2
          have hsz2 := HB2.out.size
          clear hb2 hg2 HP1 HE1 hrf HB1 hsz1 HO2 hel hcl HM2
          obtain ⟨i0, hi, hz0, hz1, hz2⟩ := info_parts infoI
          go_wp2_with (at_builtin; refine wpList_append_own _ rfl _ _ 41 rfl w.heap.size 3 i0 (.int .i64 0) 1 8 Try.underlying41 hi hz0 hz1 hz2 rfl (by decide) _ _ _ rfl (HE2.out.alloc _) ⟨w2.heap.size, 0, none⟩ 1 1 [.int .i64 (M.length : Int)] rfl rfl (cell_one_new _ _ _) (by simp [Value.oneCell']) (by unfold maxLen; omega) (by omega) (by simp; omega) ?_)
          intro v3 w3 hown3 hg3 _
          have HO3 : Hid (Own w3 w.heap.size (.slice a2 M.length c2) (cat (L.take (k + 1)))) := by
            rw [← HM.out]; exact own_grown _ HO2'.out HE2.out (by decide) hg3
          have HE3 : Hid (w3.ownsRow w.heap.size 3 1 v3 (k + 1) (ens L (k + 1))) := by
            rw [ens_succ, ← HML.out]; exact hown3
          have HB3 : Hid (Below w.heap.size w w3) := HB2.out.trans (((Below.refl w.heap.size w2).alloc hsz2 _).grown hg3 (by simp; omega) (fun j ej => (World.ownsRow.lt HE2.out j ej).1))
          clear hown3 hg3 HB2 HE2 HO2' HM HML HX hi hz0 hz1 hz2
          go_wp2_with fail
          go_roundw
          case rel => exact ⟨k + 1, by omega, by simp, HS2, HO3, HE3, HB3⟩
          case measure => simp [intOf]; omega
      · have hke : k = L.length := by omega
        subst hke
        have hel := en_le L L.length (Nat.le_refl _) HS.out
        have HSL : Hid (∀ l ∈ L, l.length ≤ 65535) := by
          intro l hl
          have := HS.out l (by rw [List.take_length]; exact hl)
          omega
        have HO' : Hid (Own wr w.heap.size u5 (cat L)) := by
          have h := HO.out
          rw [List.take_length] at h; exact h
        have hcl : (cat L).length = en L L.length := by unfold en; rw [List.take_length]
        obtain ⟨M, HM⟩ := hid_ex (cat L)
        rw [← HM.out] at hcl HO'
        have HA1 : Hid (alF (M.length + 1) M = L.map pr) := by
          have h := al_cut L.length L M.length (M.length + 1) (Nat.le_refl _) HSL.out (by omega) (.inl rfl) (by have := en_ge L L.length (Nat.le_refl _); omega)
          rw [← HM.out, List.take_length, List.take_length] at h
          exact h
        have HK1 : Hid (ksum (L.map pr) = M.length) := by rw [ksum_pr, ← HM.out]; exact rfl
        obtain ⟨a2, c2, hv2, _⟩ := HO'.out.form
        subst hv2
        have hml : M.length ≤ 1000000 := by omega
        have HCL : Hid (M.length = en L L.length) := hcl
        clear HO hcl hel
        go_wp2_with fail
        refine (all_any _ M (by omega) _ HO'.out.reads).mono ?_
        rw [HA1.out, HK1.out]
        rintro e w1 ⟨vl, xs, rfl, hxs, hrow, hO1, hb1⟩
        have HB1 : Hid (Below w.heap.size w w1) := HB.out.trans (hb1.mono HB.out.size)
        have HP1 : Hid (Own w1 w.heap.size (.slice a2 M.length c2) M) := HO'.out.below hb1
        have HE1 : Hid (w1.ownsRow w.heap.size 3 1 _ L.length (ens L L.length)) := row_kc HE.out (Kc.of_below hb1 HB.out.size)
        have hLR : LReads w1 vl L := by
          have h := LReads.of_row hrow hO1
          rw [datas hxs] at h; exact h
        have hLL : LReads w1 _ L := HL.out.below HB1.out
        clear hrow hO1 hb1 HB HO' HE hxs
        go_wp2_with fail
        refine (same_any _ _ L L _ hLR hLL).mono ?_
        have hdec : decide (L = L) = true := by simp
        rw [hdec]
        rintro e w2 ⟨rfl, hb2⟩
        have HB2 : Hid (Below w.heap.size w w2) := HB1.out.trans (hb2.mono HB1.out.size)
        have HP2 : Hid (Own w2 w.heap.size (.slice a2 M.length c2) M) := HP1.out.below hb2
        obtain ⟨ae, ce, hve, hat⟩ := ends_at (row_kc HE1.out (Kc.of_below hb2 HB1.out.size))
        subst hve
        have HAT : Hid _ := hat
        clear hb2 hat HB1 HP1 HE1 hLR hLL hdec HA1 HK1
        by_cases gc : c < 0 ∨ (M.length : Int) < c
        · by_cases gc1 : c < 0
          all_goals
            (try (have gc2 : (M.length : Int) < c := by omega))
            clear gc HAT HP2
            go_wp2_with fail
            refine (alive_any _).mono ?_
            rintro e w3 ⟨rfl, hb3⟩
            have HB3 : Hid (Below w.heap.size w w3) := HB2.out.trans (hb3.mono HB2.out.size)
            clear hb3
            go_wp2_with fail
            go_ret
            exact ⟨rfl, HB3.out⟩
        · obtain ⟨n, rfl⟩ : ∃ n : Nat, c = n := ⟨c.toNat, by omega⟩
          have gc1 : ¬ (n : Int) < 0 := by omega
          have gc2 : ¬ (M.length : Int) < (n : Int) := by omega
          clear gc
          go_wp2_with fail
          go_loopw [12] (fun x wr => ∃ q : Nat, q ≤ L.length ∧ x = .int .i64 (q : Int) ∧ Hid (en L q ≤ n) ∧ wr = w2) (fun x _ => L.length - (intOf x).toNat)
          case atStart => exact ⟨0, by omega, rfl, Nat.zero_le _, rfl⟩
          case round =>
            obtain ⟨q, hq, rfl, HQ, rfl⟩ := hrel
            by_cases hgo : q < L.length ∧ en L (q + 1) ≤ n
            · obtain ⟨h1, h2⟩ := hgo
              obtain ⟨ge, rfl, hge, hcells⟩ := HAT.out (by omega)
              have hcq := hcells q h1
              have HQ2 : Hid (en L (q + 1) ≤ n) := h2
              have h3 : ((en L (q + 1) : Nat) : Int) ≤ (n : Int) := by omega
              clear h2 hcells
              go_wp2_with fail
              go_roundw
              case rel => exact ⟨q + 1, by omega, by simp, HQ2, trivial⟩
              case measure => simp [intOf]; omega
            · have HST : Hid (q = L.length ∨ n < en L (q + 1)) := by
                show q = L.length ∨ n < en L (q + 1)
                omega
              have hcap : M.length ≤ c2 := by
                rcases Nat.eq_zero_or_pos M.length with h0 | h0
                · omega
                · exact HP2.out.reads.cap h0
              have hnc : (n : Int) ≤ (c2 : Int) := by omega
              have HRT : Hid (Reads wr (.slice a2 n c2) (M.take n)) := HP2.out.reads.take (by omega)
              have htl : (M.take n).length = n := by simp; omega
              have HA2 : Hid (alF ((M.take n).length + 1) (M.take n) = (L.take q).map pr) := by
                have h := al_cut q L n (n + 1) hq HSL.out HQ.out HST.out (by have := en_ge L q hq; have := HQ.out; omega)
                rw [← HM.out] at h
                rw [htl]; exact h
              have HTL : Hid ((M.take n).length = n) := htl
              clear htl
              by_cases hqL : q < L.length
              all_goals
                (try (obtain ⟨ge, hae, hge, hcells⟩ := HAT.out (by omega)
                      have hcq := hcells q hqL
                      have h3 : ¬ ((en L (q + 1) : Nat) : Int) ≤ (n : Int) := by omega
                      have HAE : Hid (ae = some ⟨ge, 0, none⟩) := hae
                      rw [hae]
                      clear hcells hae))
                clear hgo
                cases a2 <;> (
                  go_wp2_with fail
                  refine (all_any _ (M.take n) (by rw [HTL.out]; omega) _ HRT.out).mono ?_
                  rw [HA2.out, ksum_pr]
                  obtain ⟨N, HN⟩ := hid_ex (en L q)
                  rw [show (cat (L.take q)).length = N from HN.out.symm]
                  rintro e w3 ⟨vl2, ys, rfl, hys, hrow, hO3, hb3⟩
                  have HB3 : Hid (Below w.heap.size w w3) := HB2.out.trans (hb3.mono HB2.out.size)
                  have HLR : Hid (LReads w3 vl2 (L.take q)) := by
                    have h := LReads.of_row hrow hO3
                    rw [datas hys] at h; exact h
                  have HLQ : Hid (LReads w3 (.slice a q cap) (L.take q)) := (HL.out.below HB3.out).take hq
                  have HEN : Hid (0 < q → ∃ g, ae = some ⟨g, 0, none⟩ ∧ g < w3.heap.size ∧ w3.cell? ⟨g, q - 1, none⟩ = some (.int .i64 (N : Int))) := by
                    intro h0
                    obtain ⟨g, g1, g2, g3⟩ := HAT.out (by omega)
                    refine ⟨g, g1, Nat.lt_of_lt_of_le g2 hb3.size, ?_⟩
                    have := g3 (q - 1) (by omega)
                    rw [show q - 1 + 1 = q by omega, ← HN.out] at this
                    exact (hb3.cell (p := ⟨g, q - 1, none⟩) g2).trans this
                  have HN0 : Hid (q = 0 → N = 0) := by
                    intro h0; rw [HN.out, h0, en_zero]
                  clear hrow hO3 hb3 hys HRT HA2 HTL HP2 HAT HB2 HN
                  rcases Nat.eq_zero_or_pos q with h0 | h0
                  · subst h0
                    obtain rfl : N = 0 := HN0.out rfl
                    clear HEN
                    go_wp2_with fail
                    refine (alive_any _).mono ?_
                    rintro e w4 ⟨rfl, hb4⟩
                    have HB4 : Hid (Below w.heap.size w w4) := HB3.out.trans (hb4.mono HB3.out.size)
                    have hl1 := HLR.out.below hb4
                    have hl2 := HLQ.out.below hb4
                    clear hb4 HB3 HLR HLQ
                    go_wp2_with fail
                    refine (same_any _ _ _ _ _ hl1 hl2).mono ?_
                    rw [show decide (L.take 0 = L.take 0) = true by simp]
                    rintro e w5 ⟨rfl, hb5⟩
                    have HB5 : Hid (Below w.heap.size w w5) := HB4.out.trans (hb5.mono HB4.out.size)
                    clear hb5 HB4 hl1 hl2
                    go_wp2_with fail
                    go_ret
                    exact ⟨rfl, HB5.out⟩
                  · obtain ⟨g, g1, g2, g3⟩ := HEN.out h0
                    have HCC : Hid (∀ w', Below w3.heap.size w3 w' → w'.cell? ⟨g, q - 1, none⟩ = some (.int .i64 (N : Int))) := fun w' h => (h.cell (p := ⟨g, q - 1, none⟩) g2).trans g3
                    clear g2 g3
                    (try rw [HAE.out] at g1)
                    (first | subst g1 | (simp only [Option.some.injEq, Addr.mk.injEq, and_true] at g1; subst g1))
                    obtain ⟨p, rfl⟩ : ∃ p, q = p + 1 := ⟨q - 1, by omega⟩
                    clear HEN
                    have hp1 : ((p : Int) + 1 == 0) = false := by simp; omega
                    have hp2 : (0 : Int) < (p : Int) + 1 := by omega
                    have hp3 : (p : Int) < (L.length : Int) := by omega
                    have hp4 : (p : Int) + 1 ≤ (cap : Int) := by omega
                    go_wp2_with fail
                    refine (alive_any _).mono ?_
                    rintro e w4 ⟨rfl, hb4⟩
                    have HB4 : Hid (Below w.heap.size w w4) := HB3.out.trans (hb4.mono HB3.out.size)
                    have hl1 := HLR.out.below hb4
                    have hl2 := HLQ.out.below hb4
                    have HD4 : Hid (Below w3.heap.size w3 w4) := hb4
                    clear hb4 HB3 HLR HLQ
                    go_wp2_with fail
                    refine (same_any _ _ _ _ _ hl1 hl2).mono ?_
                    rw [show decide (L.take (p + 1) = L.take (p + 1)) = true by simp]
                    rintro e w5 ⟨rfl, hb5⟩
                    have HB5 : Hid (Below w.heap.size w w5) := HB4.out.trans (hb5.mono HB4.out.size)
                    have hc5 := HCC.out w5 (HD4.out.trans (hb5.mono HD4.out.size))
                    rw [Nat.add_sub_cancel] at hc5
                    clear hb5 HB4 hl1 hl2 HD4 HCC
                    go_wp2_with fail
                    go_ret
                    exact ⟨rfl, HB5.out⟩)
end Go.Proofs.Ytfhjhlddbcgfeaa
