/- The walk of BloomLives. -/
import Derived.Test.YtgdjjpnejdedhaaRB5
import Derived.Test.YtgdjjpnejdedhaaB9
namespace Go.Proofs.Ytgdjjpnejdedhaa
open Go.RowKit

theorem RF.kx {A W : World} {base g : Nat} {v : Value} {h : Nat} {D : List Bool} (hf : RF A base v h D) (hk : Kx g A W) (hg : g < base) : RF W base v h D := by
  obtain ⟨B, g', cap, h1, h2, h3, h4, h5⟩ := hf
  refine ⟨B, g', cap, h1, h2, hk _ _ _ _ (by omega) h3, ?_, h5⟩
  obtain ⟨q1, q2⟩ := h4
  refine ⟨q1, ?_⟩
  rcases q2 with q2 | ⟨g2, cap', cur, hv, hg2, hw, r⟩
  · exact .inl q2
  · exact .inr ⟨g2, cap', cur, hv, hg2, hk _ _ _ _ (by omega) hw, r⟩
theorem add_ref (v kv : Value) (h : Nat) (D key : List UInt8) (w : World) (lo hi : Nat) (hlo : lo ≤ w.heap.size) (hF : FilIn w lo hi v h D) (hR : Reads w kv key) :
    Calls Try.prog 13 #[v, kv] w fun e W' => e = .returned (.int .i64 0) ∧ FilIn W' lo hi v h (adF D (plc key (8 * D.length) h)) ∧ (∀ vx hx Dx, RF w hi vx hx Dx → RF W' hi vx hx Dx) ∧ Below lo w W' := by
  refine (add_any v kv h D key w lo hlo hF.fil hR).mono ?_
  rintro e W' ⟨rfl, hf, hb, hk⟩
  obtain ⟨B, g, cap, rfl, h2, h3, h4, h5, h6, h7, h8⟩ := hF
  have hkx := hk B g _ cap _ rfl h3
  refine ⟨rfl, ?_, fun vx hx Dx hfx => hfx.kx hkx h8, hb⟩
  obtain ⟨B', g', cap', e1, f2, f3, f4, f5, f6, f7, f8, f9⟩ := hf
  cases e1
  have f10 := hkx _ _ _ _ h5 h3
  rw [f3] at f10
  simp at f10
  obtain ⟨rfl, _, rfl⟩ := f10
  exact ⟨B, g', cap', rfl, f2, f3, f4, f5, ⟨f6, f7, f8, f9⟩, h7, h8⟩
theorem take_fwd {L : List (List UInt8)} {k : Nat} (h : k < L.length) : L.take (k + 1) = L.take k ++ [L[k]] := by
  rw [List.take_add_one, List.getElem?_eq_getElem h]; rfl
set_option maxRecDepth 100000 in
set_option maxHeartbeats 2000000 in
theorem lives_walk (d h : Int) (v : Value) (L : List (List UInt8)) (qv : Value) (Q : List (List UInt8)) (w : World) (hL : LReads w v L) (hQ : LReads w qv Q) :
    Calls Try.prog 3 #[.int .i64 d, .int .i64 h, v, qv] w fun e w' => e = .returned (.bool true) ∧ Below w.heap.size w w' := by
  have HL : Hid (LReads w v L) := hL
  have HQ : Hid (LReads w qv Q) := hQ
  obtain ⟨a, cap, rfl, hcap, hm, hL3⟩ := hL
  obtain ⟨aq, capq, rfl, hcapq, hmq, hQ3⟩ := hQ
  unfold maxLen at hm hmq
  have HL3 : Hid _ := hL3
  have HQ3 : Hid _ := hQ3
  clear hL3 hQ3
  go_enter Try.func3, Try.ntmps3
  go_wp2_with fail
  refine (long_any _ L _ HL.out).mono ?_
  rintro e w1 ⟨rfl, hw1⟩
  subst w1
  cases hlg : lgF L
  · have HLS : Hid (∀ l ∈ L, l.length ≤ 300) := (lg_no hlg).2
    have hL100 := (lg_no hlg).1
    go_wp2_with fail
    refine (long_any _ Q _ HQ.out).mono ?_
    rintro e w1 ⟨rfl, hw1⟩
    subst w1
    cases hlq : lgF Q
    · have HQS : Hid (∀ l ∈ Q, l.length ≤ 300) := (lg_no hlq).2
      have hQ100 := (lg_no hlq).1
      by_cases hok : newOk d h
      · obtain ⟨o1, o2, o3, o4, o5⟩ := id hok
        obtain ⟨n, rfl⟩ : ∃ n : Nat, d = 8 * (n : Int) := ⟨(d / 8).toNat, by omega⟩
        obtain ⟨hn, rfl⟩ : ∃ hn : Nat, h = (hn : Int) := ⟨h.toNat, by omega⟩
        clear o1 o2 o3 o4 o5
        go_wp2_with fail
        refine (new_ok n hn hok _).mono ?_
        rintro e w1 ⟨v1, rfl, hf1, hb1⟩
        obtain ⟨B, rfl⟩ := hf1.ptr
        have HB1 : Hid (Below w.heap.size w w1) := hb1
        have HF1 : Hid (FilIn w1 w.heap.size w1.heap.size (.pointer (some ⟨B, 0, none⟩)) hn (List.replicate n 0)) := hf1.in
        clear hf1 hb1
        go_wp2_with fail
        refine (refNew_ok n hn hok _).mono ?_
        rintro e w2 ⟨v2, rfl, hf2, hb2⟩
        obtain ⟨B2, rfl⟩ := hf2.ptr
        have HB2 : Hid (Below w.heap.size w w2) := HB1.out.trans (hb2.mono HB1.out.size)
        have HS2 : Hid (w1.heap.size ≤ w2.heap.size) := hb2.size
        obtain ⟨D, HD⟩ := hid_ex (List.replicate n (0 : UInt8))
        have HX2 : Hid (RF w2 w1.heap.size (.pointer (some ⟨B2, 0, none⟩)) hn (dgs D)) := by rw [HD.out, dgs_zero]; exact hf2
        have HF2 : Hid (FilIn w2 w.heap.size w1.heap.size (.pointer (some ⟨B, 0, none⟩)) hn D) := by rw [HD.out]; exact HF1.out.below hb2
        have hD0 := HF2.out.fil.facts.2.2.1
        clear hf2 hb2 HF1 HD hok
        go_wp2_with fail
        go_loopw [13] (fun i wr => ∃ k : Nat, k ≤ L.length ∧ i = .int .i64 (k : Int) ∧ Hid (FilIn wr w.heap.size w1.heap.size (.pointer (some ⟨B, 0, none⟩)) hn (adK hn D (L.take k))) ∧ Hid (RF wr w1.heap.size (.pointer (some ⟨B2, 0, none⟩)) hn (dgs (adK hn D (L.take k)))) ∧ Hid (Below w.heap.size w wr) ∧ Hid (w1.heap.size ≤ wr.heap.size)) (fun i _ => L.length - (intOf i).toNat)
        case atStart => exact ⟨0, by omega, rfl, HF2, HX2, HB2, HS2⟩
        case round =>
          clear HF2 HX2 HB2 HS2
          obtain ⟨k, hk, rfl, HF, HX, HB, HS⟩ := hrel
          by_cases hlt : k < L.length
          · obtain ⟨bA, oA, rfl, hbA, hA⟩ := HL3.out.resolve_left (fun h => by rw [h] at hlt; simp at hlt)
            obtain ⟨vx, hx1, hx2⟩ := hA k hlt
            obtain ⟨X, HXk⟩ := hid_ex L[k]
            rw [← HXk.out] at hx2
            obtain ⟨ax, cx, rfl, _⟩ := hx2.form
            have hX300 : X.length ≤ 300 := by rw [HXk.out]; exact HLS.out _ (List.getElem_mem hlt)
            have hcx := (HB.out.cell (p := ⟨bA, oA + k, none⟩) hbA).trans hx1
            have HC1 : Hid (w.cell? ⟨bA, oA + k, none⟩ = some (.slice ax X.length cx)) := hx1
            have HRX : Hid (Reads w (.slice ax X.length cx) X) := hx2
            clear hA hx1 hx2
            go_wp2_with fail
            refine (add_ref _ _ _ _ X _ _ _ HB.out.size HF.out (HRX.out.below HB.out)).mono ?_
            rintro e w3 ⟨rfl, hf3, hk3, hb3⟩
            have HF3 : Hid (FilIn w3 w.heap.size w1.heap.size (.pointer (some ⟨B, 0, none⟩)) hn (adK hn D (L.take (k + 1)))) := by
              rw [take_fwd hlt, ← HXk.out, adK_snoc]; exact hf3
            have HX3 : Hid (RF w3 w1.heap.size (.pointer (some ⟨B2, 0, none⟩)) hn (dgs (adK hn D (L.take k)))) := hk3 _ _ _ HX.out
            have HB3 : Hid (Below w.heap.size w w3) := HB.out.trans hb3
            have HS3 : Hid (w1.heap.size ≤ w3.heap.size) := Nat.le_trans HS.out hb3.size
            have hcy := (HB3.out.cell (p := ⟨bA, oA + k, none⟩) hbA).trans HC1.out
            clear hf3 hk3 hb3 HF HX HB hcx HS
            go_wp2_with fail
            refine (refAdd_any _ _ _ _ X (by omega) w _ _ HS3.out HX3.out HRX.out HB3.out HB1.out.size).mono ?_
            rintro e w4 ⟨⟨u4, rfl⟩, hf4, hb4⟩
            have HX4 : Hid (RF w4 w1.heap.size (.pointer (some ⟨B2, 0, none⟩)) hn (dgs (adK hn D (L.take (k + 1))))) := by
              rw [take_fwd hlt, ← HXk.out, adK_snoc]; exact hf4
            have HF4 : Hid (FilIn w4 w.heap.size w1.heap.size (.pointer (some ⟨B, 0, none⟩)) hn (adK hn D (L.take (k + 1)))) := HF3.out.below hb4
            have HB4 : Hid (Below w.heap.size w w4) := HB3.out.trans (hb4.mono HB1.out.size)
            have HS4 : Hid (w1.heap.size ≤ w4.heap.size) := Nat.le_trans HS3.out hb4.size
            clear hf4 hb4 HF3 HX3 HB3 hcy HS3 HXk HC1
            go_wp2_with fail
            go_roundw
            case rel => exact ⟨k + 1, by omega, by go_num, HF4, HX4, HB4, HS4⟩
            case measure => simp [intOf]; omega
          · obtain ⟨E, HE⟩ := hid_ex (adK hn D (L.take k))
            rw [← HE.out] at HF HX
            have HF0 : Hid (Fil wr w.heap.size (.pointer (some ⟨B, 0, none⟩)) hn E) := HF.out.fil
            clear HE HF HS
            go_wp2_with fail
            go_loopw [14] (fun i wr => ∃ k : Nat, k ≤ Q.length ∧ i = .int .i64 (k : Int) ∧ Hid (Fil wr w.heap.size (.pointer (some ⟨B, 0, none⟩)) hn E) ∧ Hid (RF wr w1.heap.size (.pointer (some ⟨B2, 0, none⟩)) hn (dgs E)) ∧ Hid (Below w.heap.size w wr)) (fun i _ => Q.length - (intOf i).toNat)
            case atStart => exact ⟨0, by omega, rfl, HF0, HX, HB⟩
            case round =>
              clear HF0 HX HB hlt hk
              obtain ⟨k, hk, rfl, HF, HX, HB⟩ := hrel
              by_cases hlt : k < Q.length
              · obtain ⟨bA, oA, rfl, hbA, hA⟩ := HQ3.out.resolve_left (fun h => by rw [h] at hlt; simp at hlt)
                obtain ⟨vx, hx1, hx2⟩ := hA k hlt
                obtain ⟨X, HXk⟩ := hid_ex Q[k]
                rw [← HXk.out] at hx2
                obtain ⟨ax, cx, rfl, _⟩ := hx2.form
                have hX300 : X.length ≤ 300 := by rw [HXk.out]; exact HQS.out _ (List.getElem_mem hlt)
                have hcx := (HB.out.cell (p := ⟨bA, oA + k, none⟩) hbA).trans hx1
                have HC1 : Hid (w.cell? ⟨bA, oA + k, none⟩ = some (.slice ax X.length cx)) := hx1
                have HRX : Hid (Reads w (.slice ax X.length cx) X) := hx2
                clear hA hx1 hx2 HXk
                go_wp2_with fail
                obtain ⟨m, Hm⟩ := hid_ex (myF E (plc X (8 * E.length) hn))
                refine wp_region_noPanic ?_
                refine wp_region_held_drew (S := (fun w' => Below wr.heap.size wr w')) (by kernel_rfl) ?_ (fun hHeld => ?_)
                · exact (Below.refl _ _).drew
                refine wpAnyH_take (i := 0) (v := .pointer (some ⟨B, 0, none⟩)) rfl (by kernel_rfl) (by kernel_rfl) (by kernel_rfl) (fun _ _ _ h => h) (Or.inl ⟨by rfl, ?_⟩) (by assumption) ?_
                · (intro w1 hSw; (try dsimp only at hSw); go_simp)
                simp only [List.getElem_toArray, List.getElem_cons_zero, Act.put, List.setIfInBounds_toArray, List.set_cons_zero, List.set_cons_succ]
                refine wpAnyH_take (i := 1) (v := .slice (some ⟨bA, oA, none⟩) Q.length capq) rfl (by kernel_rfl) (by kernel_rfl) (by kernel_rfl) (fun _ _ _ h => h) (Or.inl ⟨by rfl, ?_⟩) (by assumption) ?_
                · (intro w1 hSw; (try dsimp only at hSw); go_simp)
                simp only [List.getElem_toArray, List.getElem_cons_succ, List.getElem_cons_zero, Act.put, List.setIfInBounds_toArray, List.set_cons_zero, List.set_cons_succ]
                refine wpAnyH_take (i := 2) (v := .int .i64 (k : Int)) rfl (by kernel_rfl) (by kernel_rfl) (by kernel_rfl) (fun _ _ _ h => h) (Or.inl ⟨by rfl, ?_⟩) (by assumption) ?_
                · (intro w1 hSw; (try dsimp only at hSw); go_simp)
                simp only [List.getElem_toArray, List.getElem_cons_succ, List.getElem_cons_zero, Act.put, List.setIfInBounds_toArray, List.set_cons_zero, List.set_cons_succ]
                refine wpAnyH_take (i := 3) (v := .pointer (some ⟨bA, oA + k, none⟩)) rfl (by kernel_rfl) (by kernel_rfl) (by kernel_rfl) (fun _ _ _ h => h) (Or.inl ⟨by rfl, ?_⟩) (by assumption) ?_
                · (intro w1 hSw; (try dsimp only at hSw); go_simp)
                simp only [List.getElem_toArray, List.getElem_cons_succ, List.getElem_cons_zero, Act.put, List.setIfInBounds_toArray, List.set_cons_zero, List.set_cons_succ]
                refine wpAnyH_take (i := 4) (v := .slice ax X.length cx) rfl (by kernel_rfl) (by kernel_rfl) (by kernel_rfl) (fun _ _ _ h => h) (Or.inl ⟨by rfl, ?_⟩) (by assumption) ?_
                · (intro w1 hSw; (try dsimp only at hSw); have hcc := ((HB.out.trans (hSw.mono HB.out.size)).cell (p := ⟨bA, oA + k, none⟩) hbA).trans HC1.out; go_simp)
                simp only [List.getElem_toArray, List.getElem_cons_succ, List.getElem_cons_zero, Act.put, List.setIfInBounds_toArray, List.set_cons_zero, List.set_cons_succ]
                refine wpAnyH_take (i := 6) (v := .pointer (some ⟨B2, 0, none⟩)) rfl (by kernel_rfl) (by kernel_rfl) (by kernel_rfl) (fun _ _ _ h => h) (Or.inl ⟨by rfl, ?_⟩) (by assumption) ?_
                · (intro w1 hSw; (try dsimp only at hSw); go_simp)
                simp only [List.getElem_toArray, List.getElem_cons_succ, List.getElem_cons_zero, Act.put, List.setIfInBounds_toArray, List.set_cons_zero, List.set_cons_succ]
                refine wpAnyH_take (i := 7) (v := .slice (some ⟨bA, oA, none⟩) Q.length capq) rfl (by kernel_rfl) (by kernel_rfl) (by kernel_rfl) (fun _ _ _ h => h) (Or.inl ⟨by rfl, ?_⟩) (by assumption) ?_
                · (intro w1 hSw; (try dsimp only at hSw); go_simp)
                simp only [List.getElem_toArray, List.getElem_cons_succ, List.getElem_cons_zero, Act.put, List.setIfInBounds_toArray, List.set_cons_zero, List.set_cons_succ]
                refine wpAnyH_take (i := 8) (v := .int .i64 (k : Int)) rfl (by kernel_rfl) (by kernel_rfl) (by kernel_rfl) (fun _ _ _ h => h) (Or.inl ⟨by rfl, ?_⟩) (by assumption) ?_
                · (intro w1 hSw; (try dsimp only at hSw); go_simp)
                simp only [List.getElem_toArray, List.getElem_cons_succ, List.getElem_cons_zero, Act.put, List.setIfInBounds_toArray, List.set_cons_zero, List.set_cons_succ]
                refine wpAnyH_take (i := 9) (v := .pointer (some ⟨bA, oA + k, none⟩)) rfl (by kernel_rfl) (by kernel_rfl) (by kernel_rfl) (fun _ _ _ h => h) (Or.inl ⟨by rfl, ?_⟩) (by assumption) ?_
                · (intro w1 hSw; (try dsimp only at hSw); go_simp)
                simp only [List.getElem_toArray, List.getElem_cons_succ, List.getElem_cons_zero, Act.put, List.setIfInBounds_toArray, List.set_cons_zero, List.set_cons_succ]
                refine wpAnyH_take (i := 10) (v := .slice ax X.length cx) rfl (by kernel_rfl) (by kernel_rfl) (by kernel_rfl) (fun _ _ _ h => h) (Or.inl ⟨by rfl, ?_⟩) (by assumption) ?_
                · (intro w1 hSw; (try dsimp only at hSw); have hcc := ((HB.out.trans (hSw.mono HB.out.size)).cell (p := ⟨bA, oA + k, none⟩) hbA).trans HC1.out; go_simp)
                simp only [List.getElem_toArray, List.getElem_cons_succ, List.getElem_cons_zero, Act.put, List.setIfInBounds_toArray, List.set_cons_zero, List.set_cons_succ]
                refine wpAnyH_ready (rs := [5]) (by kernel_rfl) (by simp) ?_
                refine AllReadyH.cons (o := _) rfl (fun K hK => ?_) AllReadyH.nil
                go_simp
                refine (may_any _ _ _ E X wr.drew _ (HF.out.below (Below.refl wr.heap.size wr).drew) (HRX.out.below HB.out.drew)).mono ?_
                rintro e w3 ⟨rfl, hb3⟩
                have HB3 : Hid (Below wr.heap.size wr w3) := (Below.refl wr.heap.size wr).drew.trans hb3
                rw [← Hm.out]
                clear hb3
                refine hK.out _ _ ?_ (fun hHeld => ?_)
                · exact HB3.out
                clear hK K
                refine wpAnyH_ready (rs := [11]) (by kernel_rfl) (by simp) ?_
                refine AllReadyH.cons (o := _) rfl (fun K hK => ?_) AllReadyH.nil
                go_simp
                refine (refMay_any _ _ _ E X (by omega) w3 _ (HX.out.below HB3.out) (HRX.out.below (HB.out.trans (HB3.out.mono HB.out.size)))).mono ?_
                rintro e w4 ⟨rfl, hb4⟩
                have HB4 : Hid (Below wr.heap.size wr w4) := HB3.out.trans (hb4.mono HB3.out.size)
                rw [← Hm.out]
                clear hb4
                refine hK.out _ _ ?_ (fun hHeld => ?_)
                · exact HB4.out
                clear hK K
                refine wpAnyH_take (i := 12) (v := .bool false) rfl (by kernel_rfl) (by kernel_rfl) (by kernel_rfl) (fun _ _ _ h => h) (Or.inl ⟨by rfl, ?_⟩) (by assumption) ?_
                · (intro w1 hSw; (try dsimp only at hSw); go_simp)
                simp only [List.getElem_toArray, List.getElem_cons_succ, List.getElem_cons_zero, Act.put, List.setIfInBounds_toArray, List.set_cons_zero, List.set_cons_succ]
                refine wpAnyH_done (by kernel_rfl) ?_ _
                refine NoPanic.normal ?_
                have HF4 : Hid (Fil w4 w.heap.size (.pointer (some ⟨B, 0, none⟩)) hn E) := HF.out.below HB4.out
                have HX4 : Hid (RF w4 w1.heap.size (.pointer (some ⟨B2, 0, none⟩)) hn (dgs E)) := HX.out.below HB4.out
                have HB5 : Hid (Below w.heap.size w w4) := HB.out.trans (HB4.out.mono HB.out.size)
                clear hHeld HB3 HB4 HF HX HB hcx HC1
                go_wp2_with fail
                go_roundw
                case rel => exact ⟨k + 1, by omega, by go_num, HF4, HX4, HB5⟩
                case measure => simp [intOf]; omega
              · go_wp2_with fail
                refine (write_any _ _ _ _ _ HF.out).mono ?_
                rintro e w6 ⟨v6, rfl, ho6, hb6⟩
                have HB6 : Hid (Below w.heap.size w w6) := HB.out.trans (hb6.mono HB.out.size)
                have HX6 : Hid (RF w6 w1.heap.size (.pointer (some ⟨B2, 0, none⟩)) hn (dgs E)) := HX.out.below hb6
                obtain ⟨A, HA⟩ := hid_ex (UInt8.ofNat hn :: E)
                rw [← HA.out] at ho6
                have HR6 : Hid (Reads w6 v6 A) := ho6.reads
                obtain ⟨a6, c6, rfl, _⟩ := ho6.form
                clear ho6 hb6 HB HX HF
                go_wp2_with fail
                refine wp_region_noPanic ?_
                refine wp_region_held_drew (S := (fun w' => Below w6.heap.size w6 w')) (by kernel_rfl) ?_ (fun hHeld => ?_)
                · exact (Below.refl _ _).drew
                refine wpAnyH_ready (rs := [0]) (by kernel_rfl) (by simp) ?_
                refine AllReadyH.cons (o := _) rfl (fun K hK => ?_) AllReadyH.nil
                go_simp
                refine (alive_any w6.drew).mono ?_
                rintro e w7 ⟨rfl, hb7⟩
                have HB7 : Hid (Below w6.heap.size w6 w7) := (Below.refl w6.heap.size w6).drew.trans hb7
                clear hb7
                refine hK.out _ _ ?_ (fun hHeld => ?_)
                · exact HB7.out
                clear hK K
                refine wpAnyH_take (i := 1) (v := .bool true) rfl (by kernel_rfl) (by kernel_rfl) (by kernel_rfl) (fun _ _ _ h => h) (Or.inl ⟨by rfl, ?_⟩) (by assumption) ?_
                · (intro w1 hSw; (try dsimp only at hSw); go_simp)
                simp only [List.getElem_toArray, List.getElem_cons_succ, List.getElem_cons_zero, Act.put, List.setIfInBounds_toArray, List.set_cons_zero, List.set_cons_succ]
                refine wpAnyH_take (i := 2) (v := .int .i64 0) rfl (by kernel_rfl) (by kernel_rfl) (by kernel_rfl) (fun _ _ _ h => h) (Or.inl ⟨by rfl, ?_⟩) (by assumption) ?_
                · (intro w1 hSw; (try dsimp only at hSw); go_simp)
                simp only [List.getElem_toArray, List.getElem_cons_succ, List.getElem_cons_zero, Act.put, List.setIfInBounds_toArray, List.set_cons_zero, List.set_cons_succ]
                refine wpAnyH_take (i := 3) (v := .bool true) rfl (by kernel_rfl) (by kernel_rfl) (by kernel_rfl) (fun _ _ _ h => h) (Or.inl ⟨by rfl, ?_⟩) (by assumption) ?_
                · (intro w1 hSw; (try dsimp only at hSw); go_simp)
                simp only [List.getElem_toArray, List.getElem_cons_succ, List.getElem_cons_zero, Act.put, List.setIfInBounds_toArray, List.set_cons_zero, List.set_cons_succ]
                refine wpAnyH_take (i := 4) (v := .bool true) rfl (by kernel_rfl) (by kernel_rfl) (by kernel_rfl) (fun _ _ _ h => h) (Or.inl ⟨by rfl, ?_⟩) (by assumption) ?_
                · (intro w1 hSw; (try dsimp only at hSw); go_simp)
                simp only [List.getElem_toArray, List.getElem_cons_succ, List.getElem_cons_zero, Act.put, List.setIfInBounds_toArray, List.set_cons_zero, List.set_cons_succ]
                refine wpAnyH_take (i := 5) (v := .bool true) rfl (by kernel_rfl) (by kernel_rfl) (by kernel_rfl) (fun _ _ _ h => h) (Or.inl ⟨by rfl, ?_⟩) (by assumption) ?_
                · (intro w1 hSw; (try dsimp only at hSw); go_simp)
                simp only [List.getElem_toArray, List.getElem_cons_succ, List.getElem_cons_zero, Act.put, List.setIfInBounds_toArray, List.set_cons_zero, List.set_cons_succ]
                refine wpAnyH_take (i := 6) (v := .slice a6 A.length c6) rfl (by kernel_rfl) (by kernel_rfl) (by kernel_rfl) (fun _ _ _ h => h) (Or.inl ⟨by rfl, ?_⟩) (by assumption) ?_
                · (intro w1 hSw; (try dsimp only at hSw); go_simp)
                simp only [List.getElem_toArray, List.getElem_cons_succ, List.getElem_cons_zero, Act.put, List.setIfInBounds_toArray, List.set_cons_zero, List.set_cons_succ]
                refine wpAnyH_take (i := 7) (v := .string ⟨A.toArray⟩) rfl (by kernel_rfl) (by kernel_rfl) (by kernel_rfl) (fun _ _ _ h => h) (Or.inl ⟨by rfl, ?_⟩) (by assumption) ?_
                · (intro w1 hSw; (try dsimp only at hSw); have hcv := reads_text (HR6.out.below hSw); go_simp)
                simp only [List.getElem_toArray, List.getElem_cons_succ, List.getElem_cons_zero, Act.put, List.setIfInBounds_toArray, List.set_cons_zero, List.set_cons_succ]
                refine wpAnyH_take (i := 8) (v := .pointer (some ⟨B2, 0, none⟩)) rfl (by kernel_rfl) (by kernel_rfl) (by kernel_rfl) (fun _ _ _ h => h) (Or.inl ⟨by rfl, ?_⟩) (by assumption) ?_
                · (intro w1 hSw; (try dsimp only at hSw); go_simp)
                simp only [List.getElem_toArray, List.getElem_cons_succ, List.getElem_cons_zero, Act.put, List.setIfInBounds_toArray, List.set_cons_zero, List.set_cons_succ]
                refine wpAnyH_ready (rs := [9]) (by kernel_rfl) (by simp) ?_
                refine AllReadyH.cons (o := _) rfl (fun K hK => ?_) AllReadyH.nil
                go_simp
                refine (refWrite_any _ _ E w7 _ (HX6.out.below HB7.out)).mono ?_
                rintro e w8 ⟨v8, rfl, ho8, hb8⟩
                rw [← HA.out] at ho8
                have HB8 : Hid (Below w6.heap.size w6 w8) := HB7.out.trans (hb8.mono HB7.out.size)
                have HR8 : Hid (Reads w8 v8 A) := ho8.reads
                obtain ⟨a8, c8, rfl, _⟩ := ho8.form
                clear hb8 ho8
                refine hK.out _ _ ?_ (fun hHeld => ?_)
                · exact HB8.out
                clear hK K
                refine wpAnyH_sub (S' := fun w' => (Below w6.heap.size w6 w') ∧ (Reads w' (.slice a8 A.length c8) A)) (fun _ h => h.1) _ _ _ _ ?_
                have hHeld : (Below w6.heap.size w6 w8) ∧ (Reads w8 (.slice a8 A.length c8) A) := ⟨hHeld, HR8.out⟩
                refine wpAnyH_take (i := 10) (v := .string ⟨A.toArray⟩) rfl (by kernel_rfl) (by kernel_rfl) (by kernel_rfl) (fun _ _ _ h => h) (Or.inl ⟨by rfl, ?_⟩) (by assumption) ?_
                · (intro w1 hSw; (try dsimp only at hSw); have hcv := reads_text hSw.2; go_simp)
                simp only [List.getElem_toArray, List.getElem_cons_succ, List.getElem_cons_zero, Act.put, List.setIfInBounds_toArray, List.set_cons_zero, List.set_cons_succ]
                refine wpAnyH_take (i := 11) (v := .bool true) rfl (by kernel_rfl) (by kernel_rfl) (by kernel_rfl) (fun _ _ _ h => h) (Or.inl ⟨by rfl, ?_⟩) (by assumption) ?_
                · (intro w1 hSw; (try dsimp only at hSw); go_simp)
                simp only [List.getElem_toArray, List.getElem_cons_succ, List.getElem_cons_zero, Act.put, List.setIfInBounds_toArray, List.set_cons_zero, List.set_cons_succ]
                refine wpAnyH_take (i := 12) (v := .bool true) rfl (by kernel_rfl) (by kernel_rfl) (by kernel_rfl) (fun _ _ _ h => h) (Or.inl ⟨by rfl, ?_⟩) (by assumption) ?_
                · (intro w1 hSw; (try dsimp only at hSw); go_simp)
                simp only [List.getElem_toArray, List.getElem_cons_succ, List.getElem_cons_zero, Act.put, List.setIfInBounds_toArray, List.set_cons_zero, List.set_cons_succ]
                refine wpAnyH_take (i := 13) (v := .bool true) rfl (by kernel_rfl) (by kernel_rfl) (by kernel_rfl) (fun _ _ _ h => h) (Or.inl ⟨by rfl, ?_⟩) (by assumption) ?_
                · (intro w1 hSw; (try dsimp only at hSw); go_simp)
                simp only [List.getElem_toArray, List.getElem_cons_succ, List.getElem_cons_zero, Act.put, List.setIfInBounds_toArray, List.set_cons_zero, List.set_cons_succ]
                refine wpAnyH_done (by kernel_rfl) ?_ _
                refine NoPanic.normal ?_
                clear hHeld
                go_wp2_with fail
                go_ret
                exact ⟨rfl, HB6.out.trans (HB8.out.mono HB6.out.size)⟩
      · go_wp2_with fail
        refine (new_no d h hok _).mono ?_
        rintro e w1 ⟨rfl, hw1⟩
        subst w1
        go_wp2_with fail
        refine (refNew_no d h hok _).mono ?_
        rintro e w1 ⟨rfl, hw1⟩
        subst w1
        go_wp2_with fail
        refine (alive_any _).mono ?_
        rintro e w4 ⟨rfl, hb4⟩
        go_wp2_with fail
        go_ret
        exact ⟨rfl, hb4⟩
    · go_wp2_with fail
      refine (alive_any _).mono ?_
      rintro e w4 ⟨rfl, hb4⟩
      go_wp2_with fail
      go_ret
      exact ⟨rfl, hb4⟩
  · go_wp2_with fail
    refine (alive_any _).mono ?_
    rintro e w4 ⟨rfl, hb4⟩
    go_wp2_with fail
    go_ret
    exact ⟨rfl, hb4⟩
end Go.Proofs.Ytgdjjpnejdedhaa
