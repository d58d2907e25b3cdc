/- Of each key all rows together know what is known of it in each, merged. -/
import Derived.Test.YtefhihollifbhabMG21
import Derived.Test.YtefhihollifbhabMG16
import Derived.BigQuiet
import Derived.Deep.QuietTactic
namespace Go.Proofs.Ytefhihollifbhab
open Go.RowKit Go.Joins

/-- What the rows' guard gives. -/
structure OkRs (rs : List (List En)) : Prop where
  l1 : rs.length ≤ 10000
  l2 : ∀ r ∈ rs, r.length ≤ 100000
  l3 : ∀ r ∈ rs, ∀ x ∈ r, x.1.length ≤ 100000
theorem okRs_of {rs : List (List En)} (h : rs.length ≤ 20 ∧ ∀ r ∈ rs, okRow r) : OkRs rs := ⟨by omega, fun r hr => by have := (h.2 r hr).1; omega, fun r hr x hx => by have := (h.2 r hr).2 x hx; omega⟩
theorem rReads_some2 {w : World} {a : Option Addr} {n cap : Nat} {rs : List (List En)} (h : RReads w (.slice a n cap) rs) (h0 : 0 < rs.length) : ∃ b off, a = some ⟨b, off, none⟩ ∧ b < w.heap.size := by
  obtain ⟨a', cap', hv, h1, h2, h3⟩ := h
  simp at hv
  obtain ⟨rfl, rfl, rfl⟩ := hv
  rcases h3 with rfl | ⟨b, off, rfl, h5, h6⟩
  · simp at h0
  · exact ⟨b, off, rfl, h5⟩
theorem eReads_some2 {w : World} {a : Option Addr} {n cap : Nat} {L : List En} (h : EReads w (.slice a n cap) L) (h0 : 0 < L.length) : ∃ b off, a = some ⟨b, off, none⟩ ∧ b < w.heap.size := by
  obtain ⟨b, off, cap', hv, hb⟩ := eReads_some h h0
  simp at hv
  exact ⟨b, off, hv.1, hb⟩
set_option maxRecDepth 100000 in
set_option maxHeartbeats 2000000 in
theorem knows_walk (v : Value) (rs : List (List En)) (kvv : Value) (key : List UInt8) (w : World) (hR : RReads w v rs) (hK : Reads w kvv key) : Calls Try.prog 3 #[v, kvv] w fun e w' => e = .returned (.bool true) ∧ Below w.heap.size w w' := by
  have HR : Hid (RReads w v rs) := hR
  have HK : Hid (Reads w kvv key) := hK
  have HCN : Hid _ := rReads_cn hR
  obtain ⟨av, cv, rfl, _⟩ := hR
  obtain ⟨ka, kc, rfl, _⟩ := hK.form
  clear hK
  go_enter Try.func3, Try.ntmps3
  go_wp2_with fail
  refine (great_any _ rs _ HR.out).mono ?_
  rintro e w1 ⟨gg, rfl, hgg, hw1⟩
  subst hw1
  obtain ⟨kn, Hkn⟩ := hid_ex key.length
  rw [← Hkn.out] at HK ⊢
  by_cases hge : gg = true ∨ 300 < kn
  · have HGO : Hid (gg = true ∨ (gg = false ∧ 300 < kn)) := by
      rcases hge with h | h
      · exact .inl h
      · cases gg
        · exact .inr ⟨rfl, h⟩
        · exact .inl rfl
    clear hge hgg
    rcases HGO.out with rfl | ⟨rfl, h3⟩
    all_goals
      go_wp2_with fail
      refine (alive_any _).mono ?_
      rintro e w2 ⟨rfl, hb2⟩
      have HB2 : Hid _ := hb2
      clear hb2
      go_wp2_with fail
      go_ret
      exact ⟨rfl, HB2.out⟩
  · have hgf : gg = false := by cases gg; rfl; simp at hge
    have hkn : kn ≤ 300 := by omega
    have HG : Hid (rs.length ≤ 20 ∧ ∀ r ∈ rs, okRow r) := hgg hgf
    have HOK : Hid (OkRs rs) := okRs_of HG.out
    clear hgg hge
    subst hgf
    go_wp2_with fail
    refine (all_some _ rs _ HR.out HOK.out.l1 HOK.out.l2 HOK.out.l3).mono ?_
    rintro e w2 ⟨hb2, ⟨hne, rfl⟩ | ⟨hz, l, xs, rfl, ho, hm, hc⟩⟩
    · have HB2 : Hid _ := hb2
      have hb0 : (rowsF rs == 0) = false := by simp [hne]
      clear hb2 hne
      generalize rowsF rs = rr at *
      go_wp2_with fail
      refine (alive_any _).mono ?_
      rintro e w3 ⟨rfl, hb3⟩
      have HB3 : Hid (Below w1.heap.size w1 w3) := HB2.out.trans (hb3.mono HB2.out.size)
      clear hb3
      go_wp2_with fail
      go_ret
      exact ⟨rfl, HB3.out⟩
    · have HB2 : Hid (Below w1.heap.size w1 w2) := hb2
      have HAK : Hid _ := allF_kn hz HCN.out key
      have HE2 : Hid (EReads w2 l (allF rs)) := by have h9 := ho.reads hc; rw [hm] at h9; exact h9
      obtain ⟨la, lc, rfl, hla, hlb⟩ := HE2.out.form
      unfold maxLen at hlb
      clear hb2 hz ho hm hc
      obtain ⟨A, HA⟩ := hid_ex (allF rs)
      rw [← HA.out] at HAK HE2 hla ⊢
      have HKB0 : Hid _ := KB.new w2
      go_wp2_with fail
      obtain ⟨w3, HW3⟩ := hid_ex (w2.alloc (.cells (a6 agZ).toArray 34))
      rw [← HW3.out] at HKB0
      have HW3' : Hid (w2.alloc (.cells #[.int .u64 0, .bool false, .int .i64 0, .int .u64 0, .int .i64 0, .int .i64 0] 34) = w3) := by rw [HW3.out]; rfl
      rw [HW3'.out]
      clear HW3 HW3'
      have HKZ : Hid (KB w2 w2.heap.size agZ w3) := HKB0
      clear HKB0
      obtain ⟨b, Hb⟩ := hid_ex w2.heap.size
      have HB2b : Hid (Below w1.heap.size w1 w2 ∧ w1.heap.size ≤ b ∧ w2.heap.size ≤ b ∧ b ≤ w2.heap.size) := ⟨HB2.out, by rw [Hb.out]; exact HB2.out.size, by rw [Hb.out]; exact Nat.le_refl _, by rw [Hb.out]; exact Nat.le_refl _⟩
      rw [← Hb.out] at HKZ ⊢
      clear Hb
      have HBW : Hid (∀ s wr, KB w2 b s wr → Below w1.heap.size w1 wr) := fun s wr h => HB2b.out.1.trans (h.u.mono HB2b.out.2.1)
      go_loopw [8, 9] (fun th i wr => ∃ k : Nat, k ≤ rs.length ∧ i = .int .i64 (k : Int) ∧ th = .bool (hasR (rs.take k) key) ∧ Hid (KB w2 b (knR agZ (rs.take k) key) wr)) (fun _ i _ => rs.length - (intOf i).toNat)
      case atStart => exact ⟨0, by omega, rfl, rfl, HKZ.out⟩
      case round =>
        clear HKZ
        obtain ⟨k, hk, rfl, rfl, HKr⟩ := hrel
        by_cases hlt : k < rs.length
        · obtain ⟨rb, ro, rfl, hrb⟩ := rReads_some2 HR.out (by omega)
          obtain ⟨ev, hcv, hev⟩ := rReads_at HR.out hlt
          obtain ⟨ea, ec, rfl, hle1, hle2⟩ := hev.form
          unfold maxLen at hle2
          have HN1 : Hid _ := knR_snoc hlt agZ key
          have HN2 : Hid _ := hasR_snoc hlt key
          have HC0 : Hid (CnOk (knR agZ (rs.take k) key)) := knR_cn _ _ _ agZ_cn (fun r hr => HCN.out r (List.mem_of_mem_take hr))
          have HC1 : Hid (∀ x ∈ rs[k], CnOk x.2) := HCN.out _ (List.getElem_mem hlt)
          obtain ⟨s0, Hs0⟩ := hid_ex (knR agZ (rs.take k) key)
          obtain ⟨t0, Ht0⟩ := hid_ex (hasR (rs.take k) key)
          obtain ⟨r, Hr⟩ := hid_ex rs[k]
          rw [← Hs0.out] at HKr HN1 HC0
          rw [← Ht0.out] at HN2 ⊢
          rw [← Hr.out] at hcv hev HN1 HN2 HC1 hle1
          have HEV : Hid (EReads w1 (.slice ea r.length ec) r) := hev
          have HCV : Hid (w1.cell? ⟨rb, ro + k, none⟩ = some (.slice ea r.length ec)) := hcv
          clear hev hcv Hs0 Ht0 Hr
          have HLT : Hid (k < rs.length) := hlt
          have hcr : wr.cell? ⟨rb, ro + k, none⟩ = some (.slice ea r.length ec) := ((HBW.out _ _ HKr.out).cell (p := ⟨rb, _, none⟩) hrb).trans HCV.out
          go_wp2_with fail
          go_loopw [8, 10] (fun th i wq => ∃ m : Nat, m ≤ r.length ∧ i = .int .i64 (m : Int) ∧ th = .bool (t0 || hasE (r.take m) key) ∧ Hid (KB w2 b (knE s0 (r.take m) key) wq)) (fun _ i _ => r.length - (intOf i).toNat)
          case atStart => exact ⟨0, by omega, rfl, by simp [hasE], HKr.out⟩
          case round =>
            clear hcr HKr
            obtain ⟨m, hm, rfl, rfl, HKq⟩ := hrel
            have hcq : wr.cell? ⟨rb, ro + k, none⟩ = some (.slice ea r.length ec) := ((HBW.out _ _ HKq.out).cell (p := ⟨rb, _, none⟩) hrb).trans HCV.out
            by_cases hml : m < r.length
            · obtain ⟨eb, eo, rfl, heb⟩ := eReads_some2 HEV.out (by omega)
              obtain ⟨kv, hc, hRk, hck⟩ := eReads_at HEV.out hml rfl
              have HM1 : Hid _ := knE_snoc hml s0 key
              have HM2 : Hid _ := hasE_snoc hml key
              have HC2 : Hid (CnOk (knE s0 (r.take m) key)) := knE_cn _ _ _ HC0.out (fun x hx => HC1.out x (List.mem_of_mem_take hx))
              obtain ⟨s1, Hs1⟩ := hid_ex (knE s0 (r.take m) key)
              obtain ⟨t1, Ht1⟩ := hid_ex (hasE (r.take m) key)
              obtain ⟨X, HX⟩ := hid_ex r[m]
              rw [← Hs1.out] at HKq HM1 HC2
              rw [← Ht1.out] at HM2 ⊢
              rw [← HX.out] at hc hRk hck HM1 HM2
              have HCK : Hid (CnOk X.2) := hck
              have hq : ∀ i (hi : i < 7), wr.cell? ⟨eb, eo + m * 7 + i, none⟩ = some ((c7 ⟨kv, X.1, X.2⟩)[i]'hi) := fun i hi => ((HBW.out _ _ HKq.out).cell (p := ⟨eb, _, none⟩) heb).trans (hc i hi)
              obtain ⟨ak, ck, rfl, _⟩ := hRk.form
              have c0 := hq 0 (by decide)
              have c1 := hq (1 + 0) (by decide)
              have c2 := hq (1 + 1) (by decide)
              have c3 := hq (1 + 2) (by decide)
              have c4 := hq (1 + 3) (by decide)
              have c5 := hq (1 + 4) (by decide)
              have c6 := hq (1 + 5) (by decide)
              simp only [c7, List.getElem_cons_zero, List.getElem_cons_succ, Nat.add_zero, Nat.reduceAdd] at c0 c1 c2 c3 c4 c5 c6
              have hq1 : ∀ n, (convert 23 9 (.slice ak X.1.length ck)).run Try.prog (wr.drewN n) = .ok (.string ⟨X.1.toArray⟩) (wr.drewN n) := fun n => reads_text (hRk.below (below_drewN (HBW.out _ _ HKq.out) n))
              have hq2 : ∀ n, (convert 23 9 (.slice ka kn kc)).run Try.prog (wr.drewN n) = .ok (.string ⟨key.toArray⟩) (wr.drewN n) := fun n => reads_text (HK.out.below (below_drewN (HBW.out _ _ HKq.out) n))
              clear hq hc hRk hck Hs1 Ht1 HX
              by_cases hkx : X.1 = key
              · rw [hkx] at hq1
                rw [if_pos hkx] at HM1
                rw [decide_eq_true hkx, Bool.or_true] at HM2
                go_wp2_with fail
                go_quiet (fail)
                obtain ⟨wd, Hwd⟩ := hid_ex (wr.drewN nq)
                have hbd : Below wr.heap.size wr wd := by rw [Hwd.out]; exact below_drewN (Below.refl _ _) nq
                rw [← Hwd.out]
                clear Hwd hq1 hq2
                have HKd : Hid (KB w2 b s1 wd) := HKq.out.below hbd
                have HBd : Hid (Below w1.heap.size w1 wd) := HBW.out _ _ HKd.out
                have hsz1 : w1.heap.size ≤ wr.heap.size := (HBW.out _ _ HKq.out).size
                have k0 := (hbd.cell (p := ⟨rb, _, none⟩) (Nat.lt_of_lt_of_le hrb hsz1)).trans hcq
                have k1 := (hbd.cell (p := ⟨eb, _, none⟩) (Nat.lt_of_lt_of_le heb hsz1)).trans c1
                have k2 := (hbd.cell (p := ⟨eb, _, none⟩) (Nat.lt_of_lt_of_le heb hsz1)).trans c2
                have k3 := (hbd.cell (p := ⟨eb, _, none⟩) (Nat.lt_of_lt_of_le heb hsz1)).trans c3
                have k4 := (hbd.cell (p := ⟨eb, _, none⟩) (Nat.lt_of_lt_of_le heb hsz1)).trans c4
                have k5 := (hbd.cell (p := ⟨eb, _, none⟩) (Nat.lt_of_lt_of_le heb hsz1)).trans c5
                have k6 := (hbd.cell (p := ⟨eb, _, none⟩) (Nat.lt_of_lt_of_le heb hsz1)).trans c6
                have hrd : rb < wd.heap.size := Nat.lt_of_lt_of_le hrb (Nat.le_trans hsz1 hbd.size)
                have hed : eb < wd.heap.size := Nat.lt_of_lt_of_le heb (Nat.le_trans hsz1 hbd.size)
                have hbb : b < wd.heap.size := HKd.out.lt
                have z0 := (cell_row HKd.out.x 0 (by simp [a6])).1
                have z1 := (cell_row HKd.out.x 1 (by simp [a6])).1
                have z2 := (cell_row HKd.out.x 2 (by simp [a6])).1
                have z3 := (cell_row HKd.out.x 3 (by simp [a6])).1
                have z4 := (cell_row HKd.out.x 4 (by simp [a6])).1
                have z5 := (cell_row HKd.out.x 5 (by simp [a6])).1
                simp only [a6, List.getElem_toArray, List.getElem_cons_zero, List.getElem_cons_succ] at z0 z1 z2 z3 z4 z5
                clear hbd hcq c0 c1 c2 c3 c4 c5 c6 hsz1
                go_wp2_with fail
                refine wp_region_noPanic ?_
                refine wp_region_S 10 (fun _ => True) (fun w' => w'.cell? ⟨rb, ro + k, none⟩ = some (.slice (some ⟨eb, eo, none⟩) r.length ec) ∧ w'.cell? ⟨b, 0, none⟩ = some (.int .u64 s1.c) ∧ w'.cell? ⟨b, 1, none⟩ = some (.bool s1.o) ∧ w'.cell? ⟨b, 2, none⟩ = some (.int .i64 (hi s1.s)) ∧ w'.cell? ⟨b, 3, none⟩ = some (.int .u64 (lo s1.s)) ∧ w'.cell? ⟨b, 4, none⟩ = some (.int .i64 s1.mn) ∧ w'.cell? ⟨b, 5, none⟩ = some (.int .i64 s1.mx) ∧ w'.cell? ⟨eb, eo + m * 7 + 1, none⟩ = some (.int .u64 X.2.c) ∧ w'.cell? ⟨eb, eo + m * 7 + 1 + 1, none⟩ = some (.bool X.2.o) ∧ w'.cell? ⟨eb, eo + m * 7 + 1 + 2, none⟩ = some (.int .i64 (hi X.2.s)) ∧ w'.cell? ⟨eb, eo + m * 7 + 1 + 3, none⟩ = some (.int .u64 (lo X.2.s)) ∧ w'.cell? ⟨eb, eo + m * 7 + 1 + 4, none⟩ = some (.int .i64 X.2.mn) ∧ w'.cell? ⟨eb, eo + m * 7 + 1 + 5, none⟩ = some (.int .i64 X.2.mx)) (by kernel_rfl) ?_ ?_ (fun hHeld => ?_)
                · trivial
                · exact ⟨k0, z0, z1, z2, z3, z4, z5, k1, k2, k3, k4, k5, k6⟩
                refine wpAnyS_take (i := 0) (v := .agg #[.int .u64 s1.c, .bool s1.o, .int .i64 (hi s1.s), .int .u64 (lo s1.s), .int .i64 s1.mn, .int .i64 s1.mx]) true rfl (by kernel_rfl) (by kernel_rfl) (by kernel_rfl) (by kernel_rfl) (by kernel_rfl) (by kernel_rfl) (fun _ _ _ h => h) (Or.inl ⟨by rfl, ?_⟩) hHeld (fun hHeld => ?_)
                · (intro w1 hSw; have hSw2 := hSw.2 rfl; have hSw := hSw.1; (try dsimp only at hSw hSw2); go_simp)
                simp only [List.getElem_toArray, List.getElem_cons_zero, Act.put, List.setIfInBounds_toArray, List.set_cons_zero, List.set_cons_succ]
                refine wpAnyS_take (i := 1) (v := .slice (some ⟨rb, ro, none⟩) rs.length cv) _ rfl (by kernel_rfl) (by kernel_rfl) (by kernel_rfl) (by kernel_rfl) (by kernel_rfl) rfl (fun _ _ _ h => h) (Or.inl ⟨by rfl, ?_⟩) hHeld (fun hHeld => ?_)
                · (intro w1 hSw; have hSw := hSw.1; (try dsimp only at hSw); go_simp)
                simp only [List.getElem_toArray, List.getElem_cons_succ, List.getElem_cons_zero, Act.put, List.setIfInBounds_toArray, List.set_cons_zero, List.set_cons_succ]
                refine wpAnyS_take (i := 2) (v := .int .i64 (k : Int)) _ rfl (by kernel_rfl) (by kernel_rfl) (by kernel_rfl) (by kernel_rfl) (by kernel_rfl) rfl (fun _ _ _ h => h) (Or.inl ⟨by rfl, ?_⟩) hHeld (fun hHeld => ?_)
                · (intro w1 hSw; have hSw := hSw.1; (try dsimp only at hSw); go_simp)
                simp only [List.getElem_toArray, List.getElem_cons_succ, List.getElem_cons_zero, Act.put, List.setIfInBounds_toArray, List.set_cons_zero, List.set_cons_succ]
                refine wpAnyS_take (i := 3) (v := .pointer (some ⟨rb, ro + k, none⟩)) _ rfl (by kernel_rfl) (by kernel_rfl) (by kernel_rfl) (by kernel_rfl) (by kernel_rfl) rfl (fun _ _ _ h => h) (Or.inl ⟨by rfl, ?_⟩) hHeld (fun hHeld => ?_)
                · (intro w1 hSw; have hSw := hSw.1; (try dsimp only at hSw); go_simp)
                simp only [List.getElem_toArray, List.getElem_cons_succ, List.getElem_cons_zero, Act.put, List.setIfInBounds_toArray, List.set_cons_zero, List.set_cons_succ]
                refine wpAnyS_take (i := 4) (v := .slice (some ⟨eb, eo, none⟩) r.length ec) true rfl (by kernel_rfl) (by kernel_rfl) (by kernel_rfl) (by kernel_rfl) (by kernel_rfl) (by kernel_rfl) (fun _ _ _ h => h) (Or.inl ⟨by rfl, ?_⟩) hHeld (fun hHeld => ?_)
                · (intro w1 hSw; have hSw2 := hSw.2 rfl; have hSw := hSw.1; (try dsimp only at hSw hSw2); go_simp)
                simp only [List.getElem_toArray, List.getElem_cons_succ, List.getElem_cons_zero, Act.put, List.setIfInBounds_toArray, List.set_cons_zero, List.set_cons_succ]
                refine wpAnyS_take (i := 5) (v := .int .i64 (m : Int)) _ rfl (by kernel_rfl) (by kernel_rfl) (by kernel_rfl) (by kernel_rfl) (by kernel_rfl) rfl (fun _ _ _ h => h) (Or.inl ⟨by rfl, ?_⟩) hHeld (fun hHeld => ?_)
                · (intro w1 hSw; have hSw := hSw.1; (try dsimp only at hSw); go_simp)
                simp only [List.getElem_toArray, List.getElem_cons_succ, List.getElem_cons_zero, Act.put, List.setIfInBounds_toArray, List.set_cons_zero, List.set_cons_succ]
                refine wpAnyS_take (i := 6) (v := .pointer (some ⟨eb, eo + m * 7, none⟩)) _ rfl (by kernel_rfl) (by kernel_rfl) (by kernel_rfl) (by kernel_rfl) (by kernel_rfl) rfl (fun _ _ _ h => h) (Or.inl ⟨by rfl, ?_⟩) hHeld (fun hHeld => ?_)
                · (intro w1 hSw; have hSw := hSw.1; (try dsimp only at hSw); go_simp)
                simp only [List.getElem_toArray, List.getElem_cons_succ, List.getElem_cons_zero, Act.put, List.setIfInBounds_toArray, List.set_cons_zero, List.set_cons_succ]
                refine wpAnyS_take (i := 7) (v := .pointer (some ⟨eb, eo + m * 7 + 1, none⟩)) _ rfl (by kernel_rfl) (by kernel_rfl) (by kernel_rfl) (by kernel_rfl) (by kernel_rfl) rfl (fun _ _ _ h => h) (Or.inl ⟨by rfl, ?_⟩) hHeld (fun hHeld => ?_)
                · (intro w1 hSw; have hSw := hSw.1; (try dsimp only at hSw); go_simp)
                simp only [List.getElem_toArray, List.getElem_cons_succ, List.getElem_cons_zero, Act.put, List.setIfInBounds_toArray, List.set_cons_zero, List.set_cons_succ]
                refine wpAnyS_take (i := 8) (v := .agg #[.int .u64 X.2.c, .bool X.2.o, .int .i64 (hi X.2.s), .int .u64 (lo X.2.s), .int .i64 X.2.mn, .int .i64 X.2.mx]) true rfl (by kernel_rfl) (by kernel_rfl) (by kernel_rfl) (by kernel_rfl) (by kernel_rfl) (by kernel_rfl) (fun _ _ _ h => h) (Or.inl ⟨by rfl, ?_⟩) hHeld (fun hHeld => ?_)
                · (intro w1 hSw; have hSw2 := hSw.2 rfl; have hSw := hSw.1; (try dsimp only at hSw hSw2); go_simp)
                simp only [List.getElem_toArray, List.getElem_cons_succ, List.getElem_cons_zero, Act.put, List.setIfInBounds_toArray, List.set_cons_zero, List.set_cons_succ]
                refine wpAnyS_ready (i := 9) (by kernel_rfl) rfl (fun K hK => ?_)
                go_simp
                refine (merge_any s1 X.2 HC2.out.1 HC2.out.2 HCK.out.1 HCK.out.2 _).mono ?_
                rintro e wm ⟨rfl, hbm0⟩
                have hbm : Below wd.heap.size wd wm := (Below.refl wd.heap.size wd).drew.trans hbm0
                go_simp
                refine hK.out _ _ ⟨?_, fun _ => ?_⟩ (fun hHeld => ?_)
                · trivial
                · exact ⟨(hbm.cell (p := ⟨rb, _, none⟩) hrd).trans k0, (hbm.cell (p := ⟨b, _, none⟩) hbb).trans z0, (hbm.cell (p := ⟨b, _, none⟩) hbb).trans z1, (hbm.cell (p := ⟨b, _, none⟩) hbb).trans z2, (hbm.cell (p := ⟨b, _, none⟩) hbb).trans z3, (hbm.cell (p := ⟨b, _, none⟩) hbb).trans z4, (hbm.cell (p := ⟨b, _, none⟩) hbb).trans z5, (hbm.cell (p := ⟨eb, _, none⟩) hed).trans k1, (hbm.cell (p := ⟨eb, _, none⟩) hed).trans k2, (hbm.cell (p := ⟨eb, _, none⟩) hed).trans k3, (hbm.cell (p := ⟨eb, _, none⟩) hed).trans k4, (hbm.cell (p := ⟨eb, _, none⟩) hed).trans k5, (hbm.cell (p := ⟨eb, _, none⟩) hed).trans k6⟩
                clear hK K
                have HKm : Hid (KB w2 b s1 wm) := HKd.out.below hbm
                refine wpAnyS_ready (i := 10) (by kernel_rfl) rfl (fun K hK => ?_)
                rw [if_pos (by rfl)]
                refine wp_storeN _ _ _ rfl b 0 (a6 (mrg s1 X.2)) rfl rfl (a6 s1).toArray _ HKm.out.x (by simp [a6]) (by kernel_rfl) (by kernel_rfl) (fun W0 hW0 => ?_)
                refine hK.out _ _ ⟨?_, fun hno => absurd hno (by decide)⟩ (fun hHeld => ?_)
                · trivial
                clear hK K
                refine wpAnyS_done (by kernel_rfl) ?_ _
                refine NoPanic.normal ?_
                have HKW : Hid (KB w2 b (mrg s1 X.2) W0) := HKm.out.store hW0
                clear hW0 hbm hbm0 k0 k1 k2 k3 k4 k5 k6 z0 z1 z2 z3 z4 z5
                go_wp2_with fail
                go_roundw
                case rel => exact ⟨m + 1, by omega, by go_num, by rw [HM2.out, Bool.or_true], by rw [HM1.out]; exact HKW.out⟩
                case measure => simp [intOf]; omega
              · have hbe : (X.1 == key) = false := by simpa using hkx
                rw [if_neg hkx] at HM1
                rw [decide_eq_false hkx, Bool.or_false] at HM2
                go_wp2_with fail
                go_quiet (fail)
                have HK2 : Hid (KB w2 b s1 (wr.drewN nq)) := HKq.out.below (below_drewN (Below.refl _ _) nq)
                clear hq1 hq2
                go_wp2_with fail
                go_roundw
                case rel => exact ⟨m + 1, by omega, by go_num, by rw [HM2.out], by rw [HM1.out]; exact HK2.out⟩
                case measure => simp [intOf]; omega
            · obtain rfl : m = r.length := by omega
              rw [List.take_length] at HKq ⊢
              have hr20 : rs.length ≤ 20 := HG.out.1
              go_wp2_with fail
              go_roundw
              case rel => exact ⟨k + 1, HLT.out, by go_num, by rw [HN2.out], by rw [HN1.out]; exact HKq.out⟩
              case measure => have := HLT.out; simp [intOf]; omega
        · obtain rfl : k = rs.length := by omega
          rw [List.take_length] at HKr ⊢
          have HAE : Hid (hasE A key = hasR rs key) := HAK.out.2
          rw [← HAE.out]
          obtain ⟨s1, Hs1⟩ := hid_ex (knR agZ rs key)
          have HAS : Hid (∀ x ∈ A, x.1 = key → x.2 = s1) := by rw [Hs1.out]; exact HAK.out.1
          rw [← Hs1.out] at HKr
          clear HAE HAK Hs1
          have HBL : Hid (∀ wr, KB w2 b s1 wr → Below w2.heap.size w2 wr) := fun wr h => h.u.mono HB2b.out.2.2.1
          go_wp2_with fail
          go_loopw [11, 12] (fun fd i wq => ∃ j : Nat, j ≤ A.length ∧ i = .int .i64 (j : Int) ∧ fd = .bool (hasE (A.take j) key) ∧ Hid (KB w2 b s1 wq)) (fun _ i _ => A.length - (intOf i).toNat)
          case atStart => exact ⟨0, by omega, rfl, rfl, HKr.out⟩
          case round =>
            clear HKr
            obtain ⟨j, hj, rfl, rfl, HKq⟩ := hrel
            by_cases hjl : j < A.length
            · obtain ⟨eb, eo, rfl, heb⟩ := eReads_some2 HE2.out (by omega)
              obtain ⟨kv, hc, hRk, _⟩ := eReads_at HE2.out hjl rfl
              have HM2 : Hid _ := hasE_snoc hjl key
              have HX2 : Hid (A[j].1 = key → A[j].2 = s1) := HAS.out _ (List.getElem_mem hjl)
              obtain ⟨t1, Ht1⟩ := hid_ex (hasE (A.take j) key)
              obtain ⟨X, HX⟩ := hid_ex A[j]
              rw [← Ht1.out] at HM2 ⊢
              rw [← HX.out] at hc hRk HM2 HX2
              have hq : ∀ i (hi : i < 7), wr.cell? ⟨eb, eo + j * 7 + i, none⟩ = some ((c7 ⟨kv, X.1, X.2⟩)[i]'hi) := fun i hi => ((HBL.out _ HKq.out).cell (p := ⟨eb, _, none⟩) heb).trans (hc i hi)
              obtain ⟨ak, ck, rfl, _⟩ := hRk.form
              have c0 := hq 0 (by decide)
              simp only [c7, List.getElem_cons_zero, Nat.add_zero] at c0
              have hq1 : ∀ n, (convert 23 9 (.slice ak X.1.length ck)).run Try.prog (wr.drewN n) = .ok (.string ⟨X.1.toArray⟩) (wr.drewN n) := fun n => reads_text (hRk.below (below_drewN (HBL.out _ HKq.out) n))
              have hq2 : ∀ n, (convert 23 9 (.slice ka kn kc)).run Try.prog (wr.drewN n) = .ok (.string ⟨key.toArray⟩) (wr.drewN n) := fun n => reads_text (HK.out.below (below_drewN (HBW.out _ _ HKq.out) n))
              clear Ht1 HX hRk
              by_cases hkx : X.1 = key
              · rw [hkx] at hq1
                rw [decide_eq_true hkx, Bool.or_true] at HM2
                have hXs := HX2.out hkx
                rw [hXs] at hq hc
                have HQ : Hid _ := hq
                clear hq hc
                go_wp2_with fail
                go_quiet (fail)
                obtain ⟨wd, Hwd⟩ := hid_ex (wr.drewN nq)
                have hbd : Below wr.heap.size wr wd := by rw [Hwd.out]; exact below_drewN (Below.refl _ _) nq
                rw [← Hwd.out]
                clear Hwd hq1 hq2 c0
                have HKd : Hid (KB w2 b s1 wd) := HKq.out.below hbd
                have hqd : ∀ i (hi : i < 7), wd.cell? ⟨eb, eo + j * 7 + i, none⟩ = some ((c7 ⟨.slice ak X.1.length ck, X.1, s1⟩)[i]'hi) := fun i hi => (hbd.cell (p := ⟨eb, _, none⟩) (Nat.lt_of_lt_of_le heb (HBL.out _ HKq.out).size)).trans (HQ.out i hi)
                have c1 := hqd (1 + 0) (by decide)
                have c2 := hqd (1 + 1) (by decide)
                have c3 := hqd (1 + 2) (by decide)
                have c4 := hqd (1 + 3) (by decide)
                have c5 := hqd (1 + 4) (by decide)
                have c6 := hqd (1 + 5) (by decide)
                simp only [c7, List.getElem_cons_zero, List.getElem_cons_succ, Nat.add_zero, Nat.reduceAdd] at c1 c2 c3 c4 c5 c6
                have z0 := (cell_row HKd.out.x 0 (by simp [a6])).1
                have z1 := (cell_row HKd.out.x 1 (by simp [a6])).1
                have z2 := (cell_row HKd.out.x 2 (by simp [a6])).1
                have z3 := (cell_row HKd.out.x 3 (by simp [a6])).1
                have z4 := (cell_row HKd.out.x 4 (by simp [a6])).1
                have z5 := (cell_row HKd.out.x 5 (by simp [a6])).1
                simp only [a6, List.getElem_toArray, List.getElem_cons_zero, List.getElem_cons_succ] at z0 z1 z2 z3 z4 z5
                clear hqd hbd
                go_wp2_with fail
                go_quiet (fail)
                have HKe : Hid (KB w2 b s1 (wd.drewN nq)) := HKd.out.below (below_drewN (Below.refl _ _) nq)
                clear c1 c2 c3 c4 c5 c6 z0 z1 z2 z3 z4 z5
                go_wp2_with fail
                go_roundw
                case rel => exact ⟨j + 1, by omega, by go_num, by rw [HM2.out], HKe.out⟩
                case measure => simp [intOf]; omega
              · have hbe : (X.1 == key) = false := by simpa using hkx
                rw [decide_eq_false hkx, Bool.or_false] at HM2
                clear hq hc
                go_wp2_with fail
                go_quiet (fail)
                have HKe : Hid (KB w2 b s1 (wr.drewN nq)) := HKq.out.below (below_drewN (Below.refl _ _) nq)
                clear hq1 hq2
                go_wp2_with fail
                go_roundw
                case rel => exact ⟨j + 1, by omega, by go_num, by rw [HM2.out], HKe.out⟩
                case measure => simp [intOf]; omega
            · obtain rfl : j = A.length := by omega
              rw [List.take_length]
              obtain ⟨t1, Ht1⟩ := hid_ex (hasE A key)
              rw [← Ht1.out]
              clear Ht1
              go_wp2_with fail
              refine (alive_any _).mono ?_
              rintro e w5 ⟨rfl, hb5⟩
              have HB5 : Hid (Below w1.heap.size w1 w5) := (HBW.out _ _ HKq.out).trans (hb5.mono (HBW.out _ _ HKq.out).size)
              clear hb5
              go_wp2_with fail
              go_ret
              exact ⟨by simp, HB5.out⟩
end Go.Proofs.Ytefhihollifbhab
