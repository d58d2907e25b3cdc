/- TO7, joined. -/
import Derived.Test.YtlpjdfgknmfmnaaTF47
import Derived.BigRegion
/- law10: shows: a table shows these entries. -/
namespace Go.Proofs.Ytlpjdfgknmfmnaa
open Go.RowKit

theorem agV_zero : agV aZ = .agg #[.int .u64 0, .bool false, .int .i64 0, .int .u64 0, .int .i64 0, .int .i64 0] := by kernel_rfl
set_option maxRecDepth 100000 in
set_option maxHeartbeats 16000000 in
theorem shows_any {w : World} {lw B : Nat} {L : List Et} (hTb : Tb w lw B L) (lv kv : Value) (key : List UInt8) (m : Int) (hm : m ≤ 9223372036854775807) (hR : TRd w lv L) (hK : Reads w kv key) (hkl : key.length ≤ 1000) : Calls Try.prog 12 #[.pointer (some ⟨B, 0, none⟩), lv, kv, .int .i64 m] w fun e w' => e = .returned (.bool true) ∧ Below w.heap.size w w' := by
  have hN4 : L.length ≤ 4096 := hTb.ok.n
  have HOk : Hid (TOk L) := hTb.ok
  have HGt : Hid (gtT L key = match skI L key 1 with | [] => none | x :: _ => if x.1 = key then some x.2 else none) := gt_one hTb.ok key
  have HTb : Hid (Tb w lw B L) := hTb
  obtain ⟨a, cap, rfl, hc, hmx⟩ : ∃ a cap, lv = .slice a L.length cap ∧ L.length ≤ cap ∧ cap ≤ maxLen := by obtain ⟨a, cap, h1, h2, h3, _⟩ := hR; exact ⟨a, cap, h1, h2, h3⟩
  unfold maxLen at hmx
  have HR : Hid (TRd w (.slice a L.length cap) L) := hR
  obtain ⟨kka, kkc, rfl, hkm⟩ := hK.form
  unfold maxLen at hkm
  have HK : Hid (Reads w (.slice kka key.length kkc) key) := hK
  have HKB : Hid (key.length ≤ 1000) := hkl
  have HS1 : Hid (Calls Try.prog 40 #[.slice a L.length cap, .slice kka key.length kkc, .int .i64 1] w _) := refSeek10_any _ _ L key 1 w hR hK (by omega)
  have HM : Hid (m ≤ 9223372036854775807) := hm
  have HL1 : Hid ((skI L key 1).length ≤ 1) := sk_one_len L key
  have HMm : Hid (∀ x ∈ skI L key 1, x ∈ L) := fun x hx => skI_mem hx
  obtain ⟨N, HN⟩ : ∃ n, Hid (L.length = n) := ⟨_, rfl⟩
  rw [HN.out] at HR hc HS1 hN4 ⊢
  obtain ⟨KK, HKK⟩ : ∃ n, Hid (key.length = n) := ⟨_, rfl⟩
  rw [HKK.out] at HK hkm HS1 ⊢
  clear hR hK hTb hkl
  go_enter Try.func12, Try.ntmps12
  go_wp2_with fail
  refine HS1.out.mono ?_
  clear HS1
  rintro e w1 ⟨v1, rfl, hs1, hb1⟩
  have HB1 : Hid (Below w.heap.size w w1) := hb1
  have HT1 : Hid (TRd w1 v1 (skI L key 1)) := hs1.reads hb1
  obtain ⟨a1, c1, rfl, _⟩ := hs1.form
  clear hs1 hb1
  obtain ⟨S1, HS1⟩ := hid_ex (skI L key 1)
  rw [← HS1.out] at HGt HT1 HL1 HMm ⊢
  clear HS1
  rcases S1 with _ | ⟨x, r⟩
  · have HGo : Hid (gtT L key = none) := HGt.out
    clear HGt HT1 HL1 HMm
    by_cases hN0 : N = 0
    · subst hN0
      go_wp2_with fail
      go_quiet (fail)
      go_wp2_with fail
      have hbq : Below w1.heap.size w1 (w1.drewN nq) := below_drewN (Below.refl _ _) _
      obtain ⟨W1, HW1⟩ := hid_ex (w1.drewN nq)
      rw [← HW1.out] at hbq ⊢
      have HBq : Hid (Below w.heap.size w W1) := HB1.out.trans (hbq.mono HB1.out.size)
      have hG := tget_any (HTb.out.below HBq.out) _ key (HK.out.below HBq.out)
      rw [HGo.out] at hG
      have HG : Hid (Calls Try.prog 41 #[.pointer (some ⟨B, 0, none⟩), .slice kka KK kkc] W1 _) := hG
      clear hG hbq HW1 HB1 HGo
      refine HG.out.mono ?_
      clear HG
      rintro e w5 ⟨rfl, hb5, _⟩
      have HB5 : Hid (Below w.heap.size w w5) := HBq.out.trans (hb5.mono HBq.out.size)
      rw [show gtA none = aZ from rfl, agV_zero, show (none : Option Ag).isSome = false from rfl]
      have HOn : Hid (([.int .u64 0, .bool false, .int .i64 0, .int .u64 0, .int .i64 0, .int .i64 0] : List Value).toArray.all (·.oneCell') = true) := by unfold Hid; kernel_rfl
      clear hb5 HBq
      go_wp2_with (refine stop_store 41 _ _ rfl ?_)
      refine Stop.of ?_
      refine wpList_storeN rfl _ _ _ rfl w5.heap.size 0 [.int .u64 0, .bool false, .int .i64 0, .int .u64 0, .int .i64 0, .int .i64 0] rfl rfl _ _ (heap_alloc_new _ _) (by simp) (by kernel_rfl) HOn.out ?_
      intro w6 hw6
      obtain ⟨hb6, hx6, _⟩ := stW_nw hw6 (by simp)
      have HB6 : Hid (Below w.heap.size w w6.drew) := (HB5.out.trans (hb6.mono HB5.out.size)).drew
      have q0 := cell_rw hx6 0 (by simp)
      have q1 := cell_rw hx6 1 (by simp)
      have q2 := cell_rw hx6 2 (by simp)
      have q3 := cell_rw hx6 3 (by simp)
      have q4 := cell_rw hx6 4 (by simp)
      have q5 := cell_rw hx6 5 (by simp)
      simp only [List.getElem_toArray, List.getElem_cons_succ, List.getElem_cons_zero] at q0 q1 q2 q3 q4 q5
      have HCs : Hid (w5.heap.size < w6.drew.heap.size ∧ ∀ i (hj : i < 6), w6.drew.cell? ⟨w5.heap.size, i, none⟩ = some (([.int .u64 0, .bool false, .int .i64 0, .int .u64 0, .int .i64 0, .int .i64 0] : List Value)[i]'hj)) := ⟨(Array.getElem?_eq_some_iff.1 hx6).1, fun i hj => by
        match i, hj with
        | 0, _ => exact q0
        | 1, _ => exact q1
        | 2, _ => exact q2
        | 3, _ => exact q3
        | 4, _ => exact q4
        | 5, _ => exact q5⟩
      have HT6 : Hid (Tb w6.drew lw B L) := HTb.out.below HB6.out
      have hLn := tlen_any HT6.out
      rw [HN.out] at hLn
      have HLn : Hid (Calls Try.prog 13 #[.pointer (some ⟨B, 0, none⟩)] w6.drew _) := hLn
      have hMy := tmay_any HT6.out _ key (HK.out.below HB6.out)
      obtain ⟨MY, HMY⟩ := hid_ex (tmyF L key)
      rw [← HMY.out] at hMy
      have HMy : Hid (Calls Try.prog 14 #[.pointer (some ⟨B, 0, none⟩), .slice kka KK kkc] w6.drew _) := hMy
      obtain ⟨W5, HW5⟩ := hid_ex w5.heap.size
      rw [← HW5.out] at HCs ⊢
      clear hLn hMy q0 q1 q2 q3 q4 q5 hx6 hw6 hb6 HB5 HOn HW5
      go_wp2_with fail
      refine wp_region_noPanic ?_
      refine wp_region_held_drew (S := fun w' => Below w6.drew.heap.size w6.drew w') (by kernel_rfl) ?_ (fun hHeld => ?_)
      · exact Below.refl _ _
      refine wpAnyH_take (i := 0) (v := .bool false) rfl (by kernel_rfl) (by kernel_rfl) (by kernel_rfl) (fun _ _ _ h => h) (Or.inl ⟨by rfl, ?_⟩) (by assumption) ?_
      · (intro w1 hSw; (try dsimp only at hSw); go_simp)
      simp only [List.getElem_toArray, List.getElem_cons_zero, Act.put, List.setIfInBounds_toArray, List.set_cons_zero, List.set_cons_succ]
      refine wpAnyH_take (i := 1) (v := .bool false) rfl (by kernel_rfl) (by kernel_rfl) (by kernel_rfl) (fun _ _ _ h => h) (Or.inl ⟨by rfl, ?_⟩) (by assumption) ?_
      · (intro w1 hSw; (try dsimp only at hSw); go_simp)
      simp only [List.getElem_toArray, List.getElem_cons_succ, List.getElem_cons_zero, Act.put, List.setIfInBounds_toArray, List.set_cons_zero, List.set_cons_succ]
      refine wpAnyH_take (i := 2) (v := .bool false) rfl (by kernel_rfl) (by kernel_rfl) (by kernel_rfl) (fun _ _ _ h => h) (Or.inl ⟨by rfl, ?_⟩) (by assumption) ?_
      · (intro w1 hSw; (try dsimp only at hSw); go_simp)
      simp only [List.getElem_toArray, List.getElem_cons_succ, List.getElem_cons_zero, Act.put, List.setIfInBounds_toArray, List.set_cons_zero, List.set_cons_succ]
      refine wpAnyH_take (i := 3) (v := .bool false) rfl (by kernel_rfl) (by kernel_rfl) (by kernel_rfl) (fun _ _ _ h => h) (Or.inl ⟨by rfl, ?_⟩) (by assumption) ?_
      · (intro w1 hSw; (try dsimp only at hSw); go_simp)
      simp only [List.getElem_toArray, List.getElem_cons_succ, List.getElem_cons_zero, Act.put, List.setIfInBounds_toArray, List.set_cons_zero, List.set_cons_succ]
      refine wpAnyH_take (i := 4) (v := .bool false) rfl (by kernel_rfl) (by kernel_rfl) (by kernel_rfl) (fun _ _ _ h => h) (Or.inl ⟨by rfl, ?_⟩) (by assumption) ?_
      · (intro w1 hSw; (try dsimp only at hSw); go_simp)
      simp only [List.getElem_toArray, List.getElem_cons_succ, List.getElem_cons_zero, Act.put, List.setIfInBounds_toArray, List.set_cons_zero, List.set_cons_succ]
      refine wpAnyH_take (i := 5) (v := .bool false) rfl (by kernel_rfl) (by kernel_rfl) (by kernel_rfl) (fun _ _ _ h => h) (Or.inl ⟨by rfl, ?_⟩) (by assumption) ?_
      · (intro w1 hSw; (try dsimp only at hSw); go_simp)
      simp only [List.getElem_toArray, List.getElem_cons_succ, List.getElem_cons_zero, Act.put, List.setIfInBounds_toArray, List.set_cons_zero, List.set_cons_succ]
      refine wpAnyH_take (i := 6) (v := undef) rfl (by kernel_rfl) (by kernel_rfl) (by kernel_rfl) (fun _ _ _ h => h) (Or.inr ⟨by rfl, rfl⟩) (by assumption) ?_
      simp only [List.getElem_toArray, List.getElem_cons_succ, List.getElem_cons_zero, Act.put, List.setIfInBounds_toArray, List.set_cons_zero, List.set_cons_succ]
      refine wpAnyH_take (i := 7) (v := undef) rfl (by kernel_rfl) (by kernel_rfl) (by kernel_rfl) (fun _ _ _ h => h) (Or.inr ⟨by rfl, rfl⟩) (by assumption) ?_
      simp only [List.getElem_toArray, List.getElem_cons_succ, List.getElem_cons_zero, Act.put, List.setIfInBounds_toArray, List.set_cons_zero, List.set_cons_succ]
      refine wpAnyH_take (i := 8) (v := undef) rfl (by kernel_rfl) (by kernel_rfl) (by kernel_rfl) (fun _ _ _ h => h) (Or.inr ⟨by rfl, rfl⟩) (by assumption) ?_
      simp only [List.getElem_toArray, List.getElem_cons_succ, List.getElem_cons_zero, Act.put, List.setIfInBounds_toArray, List.set_cons_zero, List.set_cons_succ]
      refine wpAnyH_take (i := 9) (v := undef) rfl (by kernel_rfl) (by kernel_rfl) (by kernel_rfl) (fun _ _ _ h => h) (Or.inr ⟨by rfl, rfl⟩) (by assumption) ?_
      simp only [List.getElem_toArray, List.getElem_cons_succ, List.getElem_cons_zero, Act.put, List.setIfInBounds_toArray, List.set_cons_zero, List.set_cons_succ]
      refine wpAnyH_take (i := 10) (v := undef) rfl (by kernel_rfl) (by kernel_rfl) (by kernel_rfl) (fun _ _ _ h => h) (Or.inr ⟨by rfl, rfl⟩) (by assumption) ?_
      simp only [List.getElem_toArray, List.getElem_cons_succ, List.getElem_cons_zero, Act.put, List.setIfInBounds_toArray, List.set_cons_zero, List.set_cons_succ]
      refine wpAnyH_take (i := 11) (v := undef) rfl (by kernel_rfl) (by kernel_rfl) (by kernel_rfl) (fun _ _ _ h => h) (Or.inr ⟨by rfl, rfl⟩) (by assumption) ?_
      simp only [List.getElem_toArray, List.getElem_cons_succ, List.getElem_cons_zero, Act.put, List.setIfInBounds_toArray, List.set_cons_zero, List.set_cons_succ]
      refine wpAnyH_take (i := 12) (v := .bool false) rfl (by kernel_rfl) (by kernel_rfl) (by kernel_rfl) (fun _ _ _ h => h) (Or.inl ⟨by rfl, ?_⟩) (by assumption) ?_
      · (intro w1 hSw; (try dsimp only at hSw); go_simp)
      simp only [List.getElem_toArray, List.getElem_cons_succ, List.getElem_cons_zero, Act.put, List.setIfInBounds_toArray, List.set_cons_zero, List.set_cons_succ]
      refine wpAnyH_take (i := 13) (v := .bool false) rfl (by kernel_rfl) (by kernel_rfl) (by kernel_rfl) (fun _ _ _ h => h) (Or.inl ⟨by rfl, ?_⟩) (by assumption) ?_
      · (intro w1 hSw; (try dsimp only at hSw); go_simp)
      simp only [List.getElem_toArray, List.getElem_cons_succ, List.getElem_cons_zero, Act.put, List.setIfInBounds_toArray, List.set_cons_zero, List.set_cons_succ]
      refine wpAnyH_take (i := 14) (v := .bool false) rfl (by kernel_rfl) (by kernel_rfl) (by kernel_rfl) (fun _ _ _ h => h) (Or.inl ⟨by rfl, ?_⟩) (by assumption) ?_
      · (intro w1 hSw; (try dsimp only at hSw); go_simp)
      simp only [List.getElem_toArray, List.getElem_cons_succ, List.getElem_cons_zero, Act.put, List.setIfInBounds_toArray, List.set_cons_zero, List.set_cons_succ]
      refine wpAnyH_take (i := 15) (v := .bool false) rfl (by kernel_rfl) (by kernel_rfl) (by kernel_rfl) (fun _ _ _ h => h) (Or.inl ⟨by rfl, ?_⟩) (by assumption) ?_
      · (intro w1 hSw; (try dsimp only at hSw); go_simp)
      simp only [List.getElem_toArray, List.getElem_cons_succ, List.getElem_cons_zero, Act.put, List.setIfInBounds_toArray, List.set_cons_zero, List.set_cons_succ]
      refine wpAnyH_take (i := 16) (v := .bool true) rfl (by kernel_rfl) (by kernel_rfl) (by kernel_rfl) (fun _ _ _ h => h) (Or.inl ⟨by rfl, ?_⟩) (by assumption) ?_
      · (intro w1 hSw; (try dsimp only at hSw); go_simp)
      simp only [List.getElem_toArray, List.getElem_cons_succ, List.getElem_cons_zero, Act.put, List.setIfInBounds_toArray, List.set_cons_zero, List.set_cons_succ]
      refine wpAnyH_take (i := 17) (v := .bool true) rfl (by kernel_rfl) (by kernel_rfl) (by kernel_rfl) (fun _ _ _ h => h) (Or.inl ⟨by rfl, ?_⟩) (by assumption) ?_
      · (intro w1 hSw; (try dsimp only at hSw); go_simp)
      simp only [List.getElem_toArray, List.getElem_cons_succ, List.getElem_cons_zero, Act.put, List.setIfInBounds_toArray, List.set_cons_zero, List.set_cons_succ]
      refine wpAnyH_take (i := 18) (v := .agg #[.int .u64 0, .bool false, .int .i64 0, .int .u64 0, .int .i64 0, .int .i64 0]) rfl (by kernel_rfl) (by kernel_rfl) (by kernel_rfl) (fun _ _ _ h => h) (Or.inl ⟨by rfl, ?_⟩) (by assumption) ?_
      · (intro w1 hSw; (try dsimp only at hSw); have h0 := (hSw.cell (p := ⟨W5, 0, none⟩) HCs.out.1).trans (HCs.out.2 0 (by decide)); have h1 := (hSw.cell (p := ⟨W5, 1, none⟩) HCs.out.1).trans (HCs.out.2 1 (by decide)); have h2 := (hSw.cell (p := ⟨W5, 2, none⟩) HCs.out.1).trans (HCs.out.2 2 (by decide)); have h3 := (hSw.cell (p := ⟨W5, 3, none⟩) HCs.out.1).trans (HCs.out.2 3 (by decide)); have h4 := (hSw.cell (p := ⟨W5, 4, none⟩) HCs.out.1).trans (HCs.out.2 4 (by decide)); have h5 := (hSw.cell (p := ⟨W5, 5, none⟩) HCs.out.1).trans (HCs.out.2 5 (by decide)); simp only [List.getElem_cons_succ, List.getElem_cons_zero] at h0 h1 h2 h3 h4 h5; go_simp)
      simp only [List.getElem_toArray, List.getElem_cons_succ, List.getElem_cons_zero, Act.put, List.setIfInBounds_toArray, List.set_cons_zero, List.set_cons_succ]
      refine wpAnyH_take (i := 19) (v := .agg #[.int .u64 0, .bool false, .int .i64 0, .int .u64 0, .int .i64 0, .int .i64 0]) rfl (by kernel_rfl) (by kernel_rfl) (by kernel_rfl) (fun _ _ _ h => h) (Or.inl ⟨by rfl, ?_⟩) (by assumption) ?_
      · (intro w1 hSw; (try dsimp only at hSw); go_simp)
      simp only [List.getElem_toArray, List.getElem_cons_succ, List.getElem_cons_zero, Act.put, List.setIfInBounds_toArray, List.set_cons_zero, List.set_cons_succ]
      refine wpAnyH_take (i := 20) (v := .bool false) rfl (by kernel_rfl) (by kernel_rfl) (by kernel_rfl) (fun _ _ _ h => h) (Or.inl ⟨by rfl, ?_⟩) (by assumption) ?_
      · (intro w1 hSw; (try dsimp only at hSw); go_simp)
      simp only [List.getElem_toArray, List.getElem_cons_succ, List.getElem_cons_zero, Act.put, List.setIfInBounds_toArray, List.set_cons_zero, List.set_cons_succ]
      refine wpAnyH_take (i := 21) (v := .bool false) rfl (by kernel_rfl) (by kernel_rfl) (by kernel_rfl) (fun _ _ _ h => h) (Or.inl ⟨by rfl, ?_⟩) (by assumption) ?_
      · (intro w1 hSw; (try dsimp only at hSw); go_simp)
      simp only [List.getElem_toArray, List.getElem_cons_succ, List.getElem_cons_zero, Act.put, List.setIfInBounds_toArray, List.set_cons_zero, List.set_cons_succ]
      refine wpAnyH_take (i := 22) (v := .bool false) rfl (by kernel_rfl) (by kernel_rfl) (by kernel_rfl) (fun _ _ _ h => h) (Or.inl ⟨by rfl, ?_⟩) (by assumption) ?_
      · (intro w1 hSw; (try dsimp only at hSw); go_simp)
      simp only [List.getElem_toArray, List.getElem_cons_succ, List.getElem_cons_zero, Act.put, List.setIfInBounds_toArray, List.set_cons_zero, List.set_cons_succ]
      refine wpAnyH_take (i := 23) (v := .bool false) rfl (by kernel_rfl) (by kernel_rfl) (by kernel_rfl) (fun _ _ _ h => h) (Or.inl ⟨by rfl, ?_⟩) (by assumption) ?_
      · (intro w1 hSw; (try dsimp only at hSw); go_simp)
      simp only [List.getElem_toArray, List.getElem_cons_succ, List.getElem_cons_zero, Act.put, List.setIfInBounds_toArray, List.set_cons_zero, List.set_cons_succ]
      refine wpAnyH_take (i := 24) (v := .pointer (some ⟨B, 0, none⟩)) rfl (by kernel_rfl) (by kernel_rfl) (by kernel_rfl) (fun _ _ _ h => h) (Or.inl ⟨by rfl, ?_⟩) (by assumption) ?_
      · (intro w1 hSw; (try dsimp only at hSw); go_simp)
      simp only [List.getElem_toArray, List.getElem_cons_succ, List.getElem_cons_zero, Act.put, List.setIfInBounds_toArray, List.set_cons_zero, List.set_cons_succ]
      refine wpAnyH_take (i := 26) (v := .slice a 0 cap) rfl (by kernel_rfl) (by kernel_rfl) (by kernel_rfl) (fun _ _ _ h => h) (Or.inl ⟨by rfl, ?_⟩) (by assumption) ?_
      · (intro w1 hSw; (try dsimp only at hSw); go_simp)
      simp only [List.getElem_toArray, List.getElem_cons_succ, List.getElem_cons_zero, Act.put, List.setIfInBounds_toArray, List.set_cons_zero, List.set_cons_succ]
      refine wpAnyH_take (i := 27) (v := .int .i64 (0 : Int)) rfl (by kernel_rfl) (by kernel_rfl) (by kernel_rfl) (fun _ _ _ h => h) (Or.inl ⟨by rfl, ?_⟩) (by assumption) ?_
      · (intro w1 hSw; (try dsimp only at hSw); go_simp)
      simp only [List.getElem_toArray, List.getElem_cons_succ, List.getElem_cons_zero, Act.put, List.setIfInBounds_toArray, List.set_cons_zero, List.set_cons_succ]
      refine wpAnyH_ready (rs := [25]) (by kernel_rfl) (by simp) ?_
      refine AllReadyH.cons (o := _) rfl (fun K hK => ?_) AllReadyH.nil
      go_simp
      refine HLn.out.mono ?_
      clear HLn
      rintro e w6' ⟨rfl, rfl⟩
      go_simp
      refine hK.out _ _ ?_ (fun hHeld => ?_)
      · exact Below.refl _ _
      clear hK K
      refine wpAnyH_take (i := 28) (v := .bool false) rfl (by kernel_rfl) (by kernel_rfl) (by kernel_rfl) (fun _ _ _ h => h) (Or.inl ⟨by rfl, ?_⟩) (by assumption) ?_
      · (intro w1 hSw; (try dsimp only at hSw); go_simp)
      simp only [List.getElem_toArray, List.getElem_cons_succ, List.getElem_cons_zero, Act.put, List.setIfInBounds_toArray, List.set_cons_zero, List.set_cons_succ]
      refine wpAnyH_take (i := 29) (v := .bool false) rfl (by kernel_rfl) (by kernel_rfl) (by kernel_rfl) (fun _ _ _ h => h) (Or.inl ⟨by rfl, ?_⟩) (by assumption) ?_
      · (intro w1 hSw; (try dsimp only at hSw); go_simp)
      simp only [List.getElem_toArray, List.getElem_cons_succ, List.getElem_cons_zero, Act.put, List.setIfInBounds_toArray, List.set_cons_zero, List.set_cons_succ]
      refine wpAnyH_take (i := 30) (v := .bool false) rfl (by kernel_rfl) (by kernel_rfl) (by kernel_rfl) (fun _ _ _ h => h) (Or.inl ⟨by rfl, ?_⟩) (by assumption) ?_
      · (intro w1 hSw; (try dsimp only at hSw); go_simp)
      simp only [List.getElem_toArray, List.getElem_cons_succ, List.getElem_cons_zero, Act.put, List.setIfInBounds_toArray, List.set_cons_zero, List.set_cons_succ]
      refine wpAnyH_take (i := 31) (v := .pointer (some ⟨B, 0, none⟩)) rfl (by kernel_rfl) (by kernel_rfl) (by kernel_rfl) (fun _ _ _ h => h) (Or.inl ⟨by rfl, ?_⟩) (by assumption) ?_
      · (intro w1 hSw; (try dsimp only at hSw); go_simp)
      simp only [List.getElem_toArray, List.getElem_cons_succ, List.getElem_cons_zero, Act.put, List.setIfInBounds_toArray, List.set_cons_zero, List.set_cons_succ]
      refine wpAnyH_take (i := 32) (v := .slice kka KK kkc) rfl (by kernel_rfl) (by kernel_rfl) (by kernel_rfl) (fun _ _ _ h => h) (Or.inl ⟨by rfl, ?_⟩) (by assumption) ?_
      · (intro w1 hSw; (try dsimp only at hSw); go_simp)
      simp only [List.getElem_toArray, List.getElem_cons_succ, List.getElem_cons_zero, Act.put, List.setIfInBounds_toArray, List.set_cons_zero, List.set_cons_succ]
      refine wpAnyH_take (i := 34) (v := .slice a 0 cap) rfl (by kernel_rfl) (by kernel_rfl) (by kernel_rfl) (fun _ _ _ h => h) (Or.inl ⟨by rfl, ?_⟩) (by assumption) ?_
      · (intro w1 hSw; (try dsimp only at hSw); go_simp)
      simp only [List.getElem_toArray, List.getElem_cons_succ, List.getElem_cons_zero, Act.put, List.setIfInBounds_toArray, List.set_cons_zero, List.set_cons_succ]
      refine wpAnyH_take (i := 35) (v := .slice kka KK kkc) rfl (by kernel_rfl) (by kernel_rfl) (by kernel_rfl) (fun _ _ _ h => h) (Or.inl ⟨by rfl, ?_⟩) (by assumption) ?_
      · (intro w1 hSw; (try dsimp only at hSw); go_simp)
      simp only [List.getElem_toArray, List.getElem_cons_succ, List.getElem_cons_zero, Act.put, List.setIfInBounds_toArray, List.set_cons_zero, List.set_cons_succ]
      refine wpAnyH_ready (rs := [33]) (by kernel_rfl) (by simp) ?_
      refine AllReadyH.cons (o := _) rfl (fun K hK => ?_) AllReadyH.nil
      go_simp
      refine HMy.out.mono ?_
      clear HMy
      rintro e w7 ⟨rfl, hb7⟩
      go_simp
      refine hK.out _ _ ?_ (fun hHeld => ?_)
      · exact hb7
      clear hK K
      have hrm := refMay10_any _ _ L key w7 (HR.out.below (HB6.out.trans (hb7.mono HB6.out.size))) (HK.out.below (HB6.out.trans (hb7.mono HB6.out.size))) (by have := HKB.out; omega) HOk.out
      rw [← HMY.out] at hrm
      have HRm : Hid (Calls Try.prog 42 #[.slice a 0 cap, .slice kka KK kkc] w7 _) := hrm
      clear hrm
      refine wpAnyH_ready (rs := [36]) (by kernel_rfl) (by simp) ?_
      refine AllReadyH.cons (o := _) rfl (fun K hK => ?_) AllReadyH.nil
      go_simp
      refine HRm.out.mono ?_
      clear HRm
      rintro e w8 ⟨rfl, hb8⟩
      go_simp
      refine hK.out _ _ ?_ (fun hHeld => ?_)
      · exact hb7.trans (hb8.mono hb7.size)
      clear hK K
      refine wpAnyH_take (i := 37) (v := .bool false) rfl (by kernel_rfl) (by kernel_rfl) (by kernel_rfl) (fun _ _ _ h => h) (Or.inl ⟨by rfl, ?_⟩) (by assumption) ?_
      · (intro w1 hSw; (try dsimp only at hSw); go_simp)
      simp only [List.getElem_toArray, List.getElem_cons_succ, List.getElem_cons_zero, Act.put, List.setIfInBounds_toArray, List.set_cons_zero, List.set_cons_succ]
      refine wpAnyH_take (i := 38) (v := .bool false) rfl (by kernel_rfl) (by kernel_rfl) (by kernel_rfl) (fun _ _ _ h => h) (Or.inl ⟨by rfl, ?_⟩) (by assumption) ?_
      · (intro w1 hSw; (try dsimp only at hSw); go_simp)
      simp only [List.getElem_toArray, List.getElem_cons_succ, List.getElem_cons_zero, Act.put, List.setIfInBounds_toArray, List.set_cons_zero, List.set_cons_succ]
      refine wpAnyH_done (by kernel_rfl) ?_ _
      refine NoPanic.normal ?_
      have HB8 : Hid (Below w.heap.size w w8) := HB6.out.trans ((hb7.trans (hb8.mono hb7.size)).mono HB6.out.size)
      have HT8 : Hid (Tb w8 lw B L) := HTb.out.below HB8.out
      clear hb7 hb8 hHeld HT6 HMY HCs HB6
      go_wp2_with fail
      refine (tall_any HT8.out).mono ?_
      rintro e w9 ⟨v9, xs, rfl, hxs, hto9, hb9⟩
      have HB9 : Hid (Below w.heap.size w w9) := HB8.out.trans (hb9.mono HB8.out.size)
      have HT9 : Hid (Tb w9 lw B L) := HTb.out.below HB9.out
      have HXs : Hid (xs.map Ee.e = L) := hxs
      have HXl : Hid (xs.length = 0) := by unfold Hid; rw [← HN.out, ← hxs, List.length_map]
      obtain ⟨a9, c9, hv9, _⟩ := hto9.form
      rw [HXl.out] at hv9
      subst hv9
      have HA9 : Hid (TOwn w9 w.heap.size (.slice a9 0 c9) xs) := hto9.mono HB8.out.size
      clear hxs hto9 hb9 HT8 HB8
      have HSe : Hid (Calls Try.prog 44 #[.pointer (some ⟨B, 0, none⟩), .slice kka KK kkc, .int .i64 m] w9 _) := tseekI_any HT9.out _ key (HK.out.below HB9.out) m HM.out
      go_wp2_with fail
      refine HSe.out.mono ?_
      clear HSe
      rintro e w10 ⟨v10, ys, rfl, hys, hto10, hb10⟩
      have HB10 : Hid (Below w.heap.size w w10) := HB9.out.trans (hb10.mono HB9.out.size)
      have HT10 : Hid (Tb w10 lw B L) := HTb.out.below HB10.out
      have HYs : Hid (ys.map Ee.e = skI L key m) := hys
      obtain ⟨YL, HYl⟩ : ∃ n, Hid (ys.length = n) := ⟨_, rfl⟩
      obtain ⟨a10, c10, hv10, _⟩ := hto10.form
      rw [HYl.out] at hv10
      subst hv10
      have HA10 : Hid (TOwn w10 w.heap.size (.slice a9 0 c9) xs) := HA9.out.below hb10
      have HY10 : Hid (TOwn w10 w9.heap.size (.slice a10 YL c10) ys) := hto10
      clear hys hto10 hb10 HT9 HA9
      go_wp2_with fail
      refine (tends_any HT10.out).mono ?_
      rintro e w11 ⟨fv, zv, rfl, hof, hoz, hb11⟩
      have HB11 : Hid (Below w.heap.size w w11) := HB10.out.trans (hb11.mono HB10.out.size)
      have HBd : Hid (Below w.heap.size w w11.drew) := HB11.out.drew
      have HA11 : Hid (TOwn w11 w.heap.size (.slice a9 0 c9) xs) := HA10.out.below hb11
      have hdd : Below w11.heap.size w11 w11.drew := (Below.refl _ _).drew
      have hta := HA11.out.reads
      rw [HXs.out] at hta
      have HTA : Hid (TRd w11.drew (.slice a9 0 c9) L) := hta.below hdd
      have hty := (HY10.out.below hb11).reads
      rw [HYs.out] at hty
      have HTY : Hid (TRd w11.drew (.slice a10 YL c10) (skI L key m)) := hty.below hdd
      obtain ⟨FL, HFL⟩ : ∃ n, Hid ((keyF L).length = n) := ⟨_, rfl⟩
      obtain ⟨ZL, HZL⟩ : ∃ n, Hid ((keyZ L).length = n) := ⟨_, rfl⟩
      obtain ⟨af, cf, hfv, _⟩ := hof.form
      obtain ⟨az, cz, hzv, _⟩ := hoz.form
      rw [HFL.out] at hfv
      rw [HZL.out] at hzv
      subst hfv
      subst hzv
      have HOf : Hid (Own w11.drew w10.heap.size (.slice af FL cf) (keyF L)) := hof.below hdd
      have HOz : Hid (Own w11.drew w10.heap.size (.slice az ZL cz) (keyZ L)) := hoz.below hdd
      have HSm1 : Hid (Calls Try.prog 46 #[.slice a9 0 c9, .slice a 0 cap] w11.drew _) := same10_true _ _ L w11.drew HTA.out (HR.out.below HBd.out)
      clear hta hty hof hoz hb11 hdd HT10 HA10 HY10 HTA HXl
      rw [show decide (0 < L.length) = false from by rw [HN.out]; rfl]
      go_wp2_with fail
      refine wp_region_noPanic ?_
      refine wp_region_held_drew (S := fun w' => Below w11.drew.heap.size w11.drew w') (by kernel_rfl) ?_ (fun hHeld => ?_)
      · exact Below.refl _ _
      refine wpAnyH_take (i := 0) (v := .slice a9 0 c9) rfl (by kernel_rfl) (by kernel_rfl) (by kernel_rfl) (fun _ _ _ h => h) (Or.inl ⟨by rfl, ?_⟩) (by assumption) ?_
      · (intro w1 hSw; (try dsimp only at hSw); go_simp)
      simp only [List.getElem_toArray, List.getElem_cons_zero, Act.put, List.setIfInBounds_toArray, List.set_cons_zero, List.set_cons_succ]
      refine wpAnyH_take (i := 1) (v := .slice a 0 cap) rfl (by kernel_rfl) (by kernel_rfl) (by kernel_rfl) (fun _ _ _ h => h) (Or.inl ⟨by rfl, ?_⟩) (by assumption) ?_
      · (intro w1 hSw; (try dsimp only at hSw); go_simp)
      simp only [List.getElem_toArray, List.getElem_cons_succ, List.getElem_cons_zero, Act.put, List.setIfInBounds_toArray, List.set_cons_zero, List.set_cons_succ]
      refine wpAnyH_ready (rs := [2]) (by kernel_rfl) (by simp) ?_
      refine AllReadyH.cons (o := _) rfl (fun K hK => ?_) AllReadyH.nil
      go_simp
      refine HSm1.out.mono ?_
      clear HSm1
      rintro e w12 ⟨rfl, hb12⟩
      go_simp
      refine hK.out _ _ ?_ (fun hHeld => ?_)
      · exact hb12
      clear hK K
      refine wpAnyH_take (i := 3) (v := .bool false) rfl (by kernel_rfl) (by kernel_rfl) (by kernel_rfl) (fun _ _ _ h => h) (Or.inl ⟨by rfl, ?_⟩) (by assumption) ?_
      · (intro w1 hSw; (try dsimp only at hSw); go_simp)
      simp only [List.getElem_toArray, List.getElem_cons_succ, List.getElem_cons_zero, Act.put, List.setIfInBounds_toArray, List.set_cons_zero, List.set_cons_succ]
      refine wpAnyH_take (i := 4) (v := .bool false) rfl (by kernel_rfl) (by kernel_rfl) (by kernel_rfl) (fun _ _ _ h => h) (Or.inl ⟨by rfl, ?_⟩) (by assumption) ?_
      · (intro w1 hSw; (try dsimp only at hSw); go_simp)
      simp only [List.getElem_toArray, List.getElem_cons_succ, List.getElem_cons_zero, Act.put, List.setIfInBounds_toArray, List.set_cons_zero, List.set_cons_succ]
      refine wpAnyH_take (i := 5) (v := .slice a10 YL c10) rfl (by kernel_rfl) (by kernel_rfl) (by kernel_rfl) (fun _ _ _ h => h) (Or.inl ⟨by rfl, ?_⟩) (by assumption) ?_
      · (intro w1 hSw; (try dsimp only at hSw); go_simp)
      simp only [List.getElem_toArray, List.getElem_cons_succ, List.getElem_cons_zero, Act.put, List.setIfInBounds_toArray, List.set_cons_zero, List.set_cons_succ]
      refine wpAnyH_take (i := 6) (v := .slice a 0 cap) rfl (by kernel_rfl) (by kernel_rfl) (by kernel_rfl) (fun _ _ _ h => h) (Or.inl ⟨by rfl, ?_⟩) (by assumption) ?_
      · (intro w1 hSw; (try dsimp only at hSw); go_simp)
      simp only [List.getElem_toArray, List.getElem_cons_succ, List.getElem_cons_zero, Act.put, List.setIfInBounds_toArray, List.set_cons_zero, List.set_cons_succ]
      refine wpAnyH_take (i := 7) (v := .slice kka KK kkc) rfl (by kernel_rfl) (by kernel_rfl) (by kernel_rfl) (fun _ _ _ h => h) (Or.inl ⟨by rfl, ?_⟩) (by assumption) ?_
      · (intro w1 hSw; (try dsimp only at hSw); go_simp)
      simp only [List.getElem_toArray, List.getElem_cons_succ, List.getElem_cons_zero, Act.put, List.setIfInBounds_toArray, List.set_cons_zero, List.set_cons_succ]
      refine wpAnyH_take (i := 8) (v := .int .i64 m) rfl (by kernel_rfl) (by kernel_rfl) (by kernel_rfl) (fun _ _ _ h => h) (Or.inl ⟨by rfl, ?_⟩) (by assumption) ?_
      · (intro w1 hSw; (try dsimp only at hSw); go_simp)
      simp only [List.getElem_toArray, List.getElem_cons_succ, List.getElem_cons_zero, Act.put, List.setIfInBounds_toArray, List.set_cons_zero, List.set_cons_succ]
      have HB12 : Hid (Below w.heap.size w w12) := HBd.out.trans (hb12.mono HBd.out.size)
      have HRs : Hid (Calls Try.prog 40 #[.slice a 0 cap, .slice kka KK kkc, .int .i64 m] w12 _) := refSeek10_any _ _ L key m w12 (HR.out.below HB12.out) (HK.out.below HB12.out) (by rw [HN.out]; omega)
      refine wpAnyH_ready (rs := [9]) (by kernel_rfl) (by simp) ?_
      refine AllReadyH.cons (o := _) rfl (fun K hK => ?_) AllReadyH.nil
      go_simp
      refine HRs.out.mono ?_
      clear HRs
      rintro e w13 ⟨v13, rfl, hs13, hb13⟩
      go_simp
      refine hK.out _ _ ?_ (fun hHeld => ?_)
      · exact hb12.trans (hb13.mono hb12.size)
      clear hK K
      have hsm2 := same10_true _ v13 _ w13 ((HTY.out.below hb12).below hb13) (hs13.reads hb13)
      obtain ⟨a13, c13, hv13, _⟩ := hs13.form
      obtain ⟨SL, HSL⟩ : ∃ n, Hid ((skI L key m).length = n) := ⟨_, rfl⟩
      rw [HSL.out] at hv13
      subst hv13
      have HSm2 : Hid (Calls Try.prog 46 #[.slice a10 YL c10, .slice a13 SL c13] w13 _) := hsm2
      clear hsm2 hs13
      refine wpAnyH_ready (rs := [10]) (by kernel_rfl) (by simp) ?_
      refine AllReadyH.cons (o := _) rfl (fun K hK => ?_) AllReadyH.nil
      go_simp
      refine HSm2.out.mono ?_
      clear HSm2
      rintro e w14 ⟨rfl, hb14⟩
      go_simp
      refine hK.out _ _ ?_ (fun hHeld => ?_)
      · exact (hb12.trans (hb13.mono hb12.size)).trans (hb14.mono (Nat.le_trans hb12.size hb13.size))
      clear hK K
      refine wpAnyH_take (i := 11) (v := .bool false) rfl (by kernel_rfl) (by kernel_rfl) (by kernel_rfl) (fun _ _ _ h => h) (Or.inl ⟨by rfl, ?_⟩) (by assumption) ?_
      · (intro w1 hSw; (try dsimp only at hSw); go_simp)
      simp only [List.getElem_toArray, List.getElem_cons_succ, List.getElem_cons_zero, Act.put, List.setIfInBounds_toArray, List.set_cons_zero, List.set_cons_succ]
      refine wpAnyH_take (i := 12) (v := .bool false) rfl (by kernel_rfl) (by kernel_rfl) (by kernel_rfl) (fun _ _ _ h => h) (Or.inl ⟨by rfl, ?_⟩) (by assumption) ?_
      · (intro w1 hSw; (try dsimp only at hSw); go_simp)
      simp only [List.getElem_toArray, List.getElem_cons_succ, List.getElem_cons_zero, Act.put, List.setIfInBounds_toArray, List.set_cons_zero, List.set_cons_succ]
      refine wpAnyH_take (i := 13) (v := .bool false) rfl (by kernel_rfl) (by kernel_rfl) (by kernel_rfl) (fun _ _ _ h => h) (Or.inl ⟨by rfl, ?_⟩) (by assumption) ?_
      · (intro w1 hSw; (try dsimp only at hSw); go_simp)
      simp only [List.getElem_toArray, List.getElem_cons_succ, List.getElem_cons_zero, Act.put, List.setIfInBounds_toArray, List.set_cons_zero, List.set_cons_succ]
      refine wpAnyH_take (i := 14) (v := .bool false) rfl (by kernel_rfl) (by kernel_rfl) (by kernel_rfl) (fun _ _ _ h => h) (Or.inl ⟨by rfl, ?_⟩) (by assumption) ?_
      · (intro w1 hSw; (try dsimp only at hSw); go_simp)
      simp only [List.getElem_toArray, List.getElem_cons_succ, List.getElem_cons_zero, Act.put, List.setIfInBounds_toArray, List.set_cons_zero, List.set_cons_succ]
      refine wpAnyH_take (i := 15) (v := .slice a 0 cap) rfl (by kernel_rfl) (by kernel_rfl) (by kernel_rfl) (fun _ _ _ h => h) (Or.inl ⟨by rfl, ?_⟩) (by assumption) ?_
      · (intro w1 hSw; (try dsimp only at hSw); go_simp)
      simp only [List.getElem_toArray, List.getElem_cons_succ, List.getElem_cons_zero, Act.put, List.setIfInBounds_toArray, List.set_cons_zero, List.set_cons_succ]
      refine wpAnyH_take (i := 16) (v := .int .i64 (0 : Int)) rfl (by kernel_rfl) (by kernel_rfl) (by kernel_rfl) (fun _ _ _ h => h) (Or.inl ⟨by rfl, ?_⟩) (by assumption) ?_
      · (intro w1 hSw; (try dsimp only at hSw); go_simp)
      simp only [List.getElem_toArray, List.getElem_cons_succ, List.getElem_cons_zero, Act.put, List.setIfInBounds_toArray, List.set_cons_zero, List.set_cons_succ]
      refine wpAnyH_take (i := 17) (v := .bool false) rfl (by kernel_rfl) (by kernel_rfl) (by kernel_rfl) (fun _ _ _ h => h) (Or.inl ⟨by rfl, ?_⟩) (by assumption) ?_
      · (intro w1 hSw; (try dsimp only at hSw); go_simp)
      simp only [List.getElem_toArray, List.getElem_cons_succ, List.getElem_cons_zero, Act.put, List.setIfInBounds_toArray, List.set_cons_zero, List.set_cons_succ]
      refine wpAnyH_take (i := 18) (v := .bool false) rfl (by kernel_rfl) (by kernel_rfl) (by kernel_rfl) (fun _ _ _ h => h) (Or.inl ⟨by rfl, ?_⟩) (by assumption) ?_
      · (intro w1 hSw; (try dsimp only at hSw); go_simp)
      simp only [List.getElem_toArray, List.getElem_cons_succ, List.getElem_cons_zero, Act.put, List.setIfInBounds_toArray, List.set_cons_zero, List.set_cons_succ]
      refine wpAnyH_take (i := 19) (v := .bool false) rfl (by kernel_rfl) (by kernel_rfl) (by kernel_rfl) (fun _ _ _ h => h) (Or.inl ⟨by rfl, ?_⟩) (by assumption) ?_
      · (intro w1 hSw; (try dsimp only at hSw); go_simp)
      simp only [List.getElem_toArray, List.getElem_cons_succ, List.getElem_cons_zero, Act.put, List.setIfInBounds_toArray, List.set_cons_zero, List.set_cons_succ]
      refine wpAnyH_take (i := 20) (v := .bool false) rfl (by kernel_rfl) (by kernel_rfl) (by kernel_rfl) (fun _ _ _ h => h) (Or.inl ⟨by rfl, ?_⟩) (by assumption) ?_
      · (intro w1 hSw; (try dsimp only at hSw); go_simp)
      simp only [List.getElem_toArray, List.getElem_cons_succ, List.getElem_cons_zero, Act.put, List.setIfInBounds_toArray, List.set_cons_zero, List.set_cons_succ]
      refine wpAnyH_take (i := 21) (v := .bool false) rfl (by kernel_rfl) (by kernel_rfl) (by kernel_rfl) (fun _ _ _ h => h) (Or.inl ⟨by rfl, ?_⟩) (by assumption) ?_
      · (intro w1 hSw; (try dsimp only at hSw); go_simp)
      simp only [List.getElem_toArray, List.getElem_cons_succ, List.getElem_cons_zero, Act.put, List.setIfInBounds_toArray, List.set_cons_zero, List.set_cons_succ]
      refine wpAnyH_take (i := 22) (v := .bool false) rfl (by kernel_rfl) (by kernel_rfl) (by kernel_rfl) (fun _ _ _ h => h) (Or.inl ⟨by rfl, ?_⟩) (by assumption) ?_
      · (intro w1 hSw; (try dsimp only at hSw); go_simp)
      simp only [List.getElem_toArray, List.getElem_cons_succ, List.getElem_cons_zero, Act.put, List.setIfInBounds_toArray, List.set_cons_zero, List.set_cons_succ]
      refine wpAnyH_take (i := 23) (v := undef) rfl (by kernel_rfl) (by kernel_rfl) (by kernel_rfl) (fun _ _ _ h => h) (Or.inr ⟨by rfl, rfl⟩) (by assumption) ?_
      simp only [List.getElem_toArray, List.getElem_cons_succ, List.getElem_cons_zero, Act.put, List.setIfInBounds_toArray, List.set_cons_zero, List.set_cons_succ]
      refine wpAnyH_take (i := 24) (v := undef) rfl (by kernel_rfl) (by kernel_rfl) (by kernel_rfl) (fun _ _ _ h => h) (Or.inr ⟨by rfl, rfl⟩) (by assumption) ?_
      simp only [List.getElem_toArray, List.getElem_cons_succ, List.getElem_cons_zero, Act.put, List.setIfInBounds_toArray, List.set_cons_zero, List.set_cons_succ]
      refine wpAnyH_take (i := 25) (v := undef) rfl (by kernel_rfl) (by kernel_rfl) (by kernel_rfl) (fun _ _ _ h => h) (Or.inr ⟨by rfl, rfl⟩) (by assumption) ?_
      simp only [List.getElem_toArray, List.getElem_cons_succ, List.getElem_cons_zero, Act.put, List.setIfInBounds_toArray, List.set_cons_zero, List.set_cons_succ]
      refine wpAnyH_take (i := 26) (v := undef) rfl (by kernel_rfl) (by kernel_rfl) (by kernel_rfl) (fun _ _ _ h => h) (Or.inr ⟨by rfl, rfl⟩) (by assumption) ?_
      simp only [List.getElem_toArray, List.getElem_cons_succ, List.getElem_cons_zero, Act.put, List.setIfInBounds_toArray, List.set_cons_zero, List.set_cons_succ]
      refine wpAnyH_take (i := 27) (v := undef) rfl (by kernel_rfl) (by kernel_rfl) (by kernel_rfl) (fun _ _ _ h => h) (Or.inr ⟨by rfl, rfl⟩) (by assumption) ?_
      simp only [List.getElem_toArray, List.getElem_cons_succ, List.getElem_cons_zero, Act.put, List.setIfInBounds_toArray, List.set_cons_zero, List.set_cons_succ]
      refine wpAnyH_take (i := 28) (v := undef) rfl (by kernel_rfl) (by kernel_rfl) (by kernel_rfl) (fun _ _ _ h => h) (Or.inr ⟨by rfl, rfl⟩) (by assumption) ?_
      simp only [List.getElem_toArray, List.getElem_cons_succ, List.getElem_cons_zero, Act.put, List.setIfInBounds_toArray, List.set_cons_zero, List.set_cons_succ]
      refine wpAnyH_take (i := 29) (v := undef) rfl (by kernel_rfl) (by kernel_rfl) (by kernel_rfl) (fun _ _ _ h => h) (Or.inr ⟨by rfl, rfl⟩) (by assumption) ?_
      simp only [List.getElem_toArray, List.getElem_cons_succ, List.getElem_cons_zero, Act.put, List.setIfInBounds_toArray, List.set_cons_zero, List.set_cons_succ]
      refine wpAnyH_take (i := 30) (v := undef) rfl (by kernel_rfl) (by kernel_rfl) (by kernel_rfl) (fun _ _ _ h => h) (Or.inr ⟨by rfl, rfl⟩) (by assumption) ?_
      simp only [List.getElem_toArray, List.getElem_cons_succ, List.getElem_cons_zero, Act.put, List.setIfInBounds_toArray, List.set_cons_zero, List.set_cons_succ]
      refine wpAnyH_take (i := 31) (v := undef) rfl (by kernel_rfl) (by kernel_rfl) (by kernel_rfl) (fun _ _ _ h => h) (Or.inr ⟨by rfl, rfl⟩) (by assumption) ?_
      simp only [List.getElem_toArray, List.getElem_cons_succ, List.getElem_cons_zero, Act.put, List.setIfInBounds_toArray, List.set_cons_zero, List.set_cons_succ]
      refine wpAnyH_take (i := 32) (v := undef) rfl (by kernel_rfl) (by kernel_rfl) (by kernel_rfl) (fun _ _ _ h => h) (Or.inr ⟨by rfl, rfl⟩) (by assumption) ?_
      simp only [List.getElem_toArray, List.getElem_cons_succ, List.getElem_cons_zero, Act.put, List.setIfInBounds_toArray, List.set_cons_zero, List.set_cons_succ]
      refine wpAnyH_take (i := 33) (v := undef) rfl (by kernel_rfl) (by kernel_rfl) (by kernel_rfl) (fun _ _ _ h => h) (Or.inr ⟨by rfl, rfl⟩) (by assumption) ?_
      simp only [List.getElem_toArray, List.getElem_cons_succ, List.getElem_cons_zero, Act.put, List.setIfInBounds_toArray, List.set_cons_zero, List.set_cons_succ]
      refine wpAnyH_take (i := 34) (v := undef) rfl (by kernel_rfl) (by kernel_rfl) (by kernel_rfl) (fun _ _ _ h => h) (Or.inr ⟨by rfl, rfl⟩) (by assumption) ?_
      simp only [List.getElem_toArray, List.getElem_cons_succ, List.getElem_cons_zero, Act.put, List.setIfInBounds_toArray, List.set_cons_zero, List.set_cons_succ]
      refine wpAnyH_take (i := 35) (v := undef) rfl (by kernel_rfl) (by kernel_rfl) (by kernel_rfl) (fun _ _ _ h => h) (Or.inr ⟨by rfl, rfl⟩) (by assumption) ?_
      simp only [List.getElem_toArray, List.getElem_cons_succ, List.getElem_cons_zero, Act.put, List.setIfInBounds_toArray, List.set_cons_zero, List.set_cons_succ]
      refine wpAnyH_take (i := 36) (v := undef) rfl (by kernel_rfl) (by kernel_rfl) (by kernel_rfl) (fun _ _ _ h => h) (Or.inr ⟨by rfl, rfl⟩) (by assumption) ?_
      simp only [List.getElem_toArray, List.getElem_cons_succ, List.getElem_cons_zero, Act.put, List.setIfInBounds_toArray, List.set_cons_zero, List.set_cons_succ]
      refine wpAnyH_take (i := 37) (v := undef) rfl (by kernel_rfl) (by kernel_rfl) (by kernel_rfl) (fun _ _ _ h => h) (Or.inr ⟨by rfl, rfl⟩) (by assumption) ?_
      simp only [List.getElem_toArray, List.getElem_cons_succ, List.getElem_cons_zero, Act.put, List.setIfInBounds_toArray, List.set_cons_zero, List.set_cons_succ]
      refine wpAnyH_take (i := 38) (v := undef) rfl (by kernel_rfl) (by kernel_rfl) (by kernel_rfl) (fun _ _ _ h => h) (Or.inr ⟨by rfl, rfl⟩) (by assumption) ?_
      simp only [List.getElem_toArray, List.getElem_cons_succ, List.getElem_cons_zero, Act.put, List.setIfInBounds_toArray, List.set_cons_zero, List.set_cons_succ]
      refine wpAnyH_take (i := 39) (v := undef) rfl (by kernel_rfl) (by kernel_rfl) (by kernel_rfl) (fun _ _ _ h => h) (Or.inr ⟨by rfl, rfl⟩) (by assumption) ?_
      simp only [List.getElem_toArray, List.getElem_cons_succ, List.getElem_cons_zero, Act.put, List.setIfInBounds_toArray, List.set_cons_zero, List.set_cons_succ]
      refine wpAnyH_take (i := 40) (v := undef) rfl (by kernel_rfl) (by kernel_rfl) (by kernel_rfl) (fun _ _ _ h => h) (Or.inr ⟨by rfl, rfl⟩) (by assumption) ?_
      simp only [List.getElem_toArray, List.getElem_cons_succ, List.getElem_cons_zero, Act.put, List.setIfInBounds_toArray, List.set_cons_zero, List.set_cons_succ]
      refine wpAnyH_take (i := 41) (v := undef) rfl (by kernel_rfl) (by kernel_rfl) (by kernel_rfl) (fun _ _ _ h => h) (Or.inr ⟨by rfl, rfl⟩) (by assumption) ?_
      simp only [List.getElem_toArray, List.getElem_cons_succ, List.getElem_cons_zero, Act.put, List.setIfInBounds_toArray, List.set_cons_zero, List.set_cons_succ]
      refine wpAnyH_take (i := 42) (v := undef) rfl (by kernel_rfl) (by kernel_rfl) (by kernel_rfl) (fun _ _ _ h => h) (Or.inr ⟨by rfl, rfl⟩) (by assumption) ?_
      simp only [List.getElem_toArray, List.getElem_cons_succ, List.getElem_cons_zero, Act.put, List.setIfInBounds_toArray, List.set_cons_zero, List.set_cons_succ]
      refine wpAnyH_take (i := 43) (v := undef) rfl (by kernel_rfl) (by kernel_rfl) (by kernel_rfl) (fun _ _ _ h => h) (Or.inr ⟨by rfl, rfl⟩) (by assumption) ?_
      simp only [List.getElem_toArray, List.getElem_cons_succ, List.getElem_cons_zero, Act.put, List.setIfInBounds_toArray, List.set_cons_zero, List.set_cons_succ]
      refine wpAnyH_take (i := 44) (v := .bool false) rfl (by kernel_rfl) (by kernel_rfl) (by kernel_rfl) (fun _ _ _ h => h) (Or.inl ⟨by rfl, ?_⟩) (by assumption) ?_
      · (intro w1 hSw; (try dsimp only at hSw); go_simp)
      simp only [List.getElem_toArray, List.getElem_cons_succ, List.getElem_cons_zero, Act.put, List.setIfInBounds_toArray, List.set_cons_zero, List.set_cons_succ]
      refine wpAnyH_take (i := 45) (v := .bool false) rfl (by kernel_rfl) (by kernel_rfl) (by kernel_rfl) (fun _ _ _ h => h) (Or.inl ⟨by rfl, ?_⟩) (by assumption) ?_
      · (intro w1 hSw; (try dsimp only at hSw); go_simp)
      simp only [List.getElem_toArray, List.getElem_cons_succ, List.getElem_cons_zero, Act.put, List.setIfInBounds_toArray, List.set_cons_zero, List.set_cons_succ]
      refine wpAnyH_done (by kernel_rfl) ?_ _
      refine NoPanic.normal ?_
      have hbe14 : Below w11.drew.heap.size w11.drew w14 := (hb12.trans (hb13.mono hb12.size)).trans (hb14.mono (Nat.le_trans hb12.size hb13.size))
      have HB14 : Hid (Below w.heap.size w w14) := HBd.out.trans (hbe14.mono HBd.out.size)
      have HA14 : Hid (Al w14 w.heap.size (.slice a9 0 c9) xs) := Al.of ((HA11.out.below (Below.refl _ _).drew).below hbe14) (Nat.le_refl _)
      have HF14 : Hid (Hld w14 w.heap.size (.slice af FL cf) FL) := Hld.of (HOf.out.below hbe14) HB10.out.size HFL.out
      have HZ14 : Hid (Hld w14 w.heap.size (.slice az ZL cz) ZL) := Hld.of (HOz.out.below hbe14) HB10.out.size HZL.out
      have HKp : Hid (∀ x ∈ xs, 0 < x.e.1.length) := fun x hx => by
        have : x.e ∈ L := by rw [← HXs.out]; exact List.mem_map_of_mem hx
        exact (HOk.out.k _ this).1
      have HXl : Hid (xs.length = 0) := by unfold Hid; rw [← HN.out, ← HXs.out, List.length_map]
      have HFZ : Hid (0 < ZL → 0 < FL) := fun h => by
        have h0 : 0 < L.length := by
          rcases Nat.eq_zero_or_pos L.length with q | q
          · exfalso
            rw [List.length_eq_zero_iff] at q
            rw [← HZL.out, q] at h
            exact absurd h (by decide)
          · exact q
        rw [← HFL.out, keyF_of h0]
        exact (HOk.out.k _ (List.getElem_mem h0)).1
      have hZb : ZL ≤ 256 := by
        rcases Nat.eq_zero_or_pos L.length with q | q
        · rw [List.length_eq_zero_iff] at q; rw [← HZL.out, q]; decide
        · rw [← HZL.out, keyZ_of (by omega)]; exact (HOk.out.k _ (List.getElem_mem _)).2
      clear hb12 hb13 hb14 hbe14 hHeld HB12 HTY HOf HOz HA11 HBd HB11 HB10 HYs HYl HSL HXs
      go_wp2_with fail
      go_loopw [18] (fun i wr => ∃ k : Nat, i = .int .i64 (k : Int) ∧ k ≤ 0 ∧ Hid (Al wr w.heap.size (.slice a9 0 c9) xs) ∧ Hid (Hld wr w.heap.size (.slice af FL cf) FL) ∧ Hid (Hld wr w.heap.size (.slice az ZL cz) ZL) ∧ Hid (Below w.heap.size w wr)) (fun i _ => 0 - (intOf i).toNat)
      case atStart => exact ⟨0, rfl, by omega, HA14, HF14, HZ14, HB14⟩
      case round =>
        obtain ⟨k, rfl, hk, HA, HF, HZ, HB⟩ := hrel
        by_cases hlt : k < 0
        · have hlt' : (k : Int) < (0 : Int) := by omega
          have hkx : k < xs.length := by rw [HXl.out]; exact hlt
          obtain ⟨g, rfl, hc0, hld⟩ := HA.out.at hkx rfl
          have hkp := HKp.out _ (List.getElem_mem hkx)
          obtain ⟨kg, kcp, x0, hkv, hkg, hkg2, hx0, hcx, hfx, cs, hcs⟩ := hld.cell hkp
          obtain ⟨KL, HKL⟩ := hid_ex (xs[k]'hkx).e.1.length
          rw [← HKL.out] at hkv hkp
          rw [hkv] at hc0
          obtain ⟨y, hy⟩ := xor_255 x0 hx0
          have hzr : Below wr.heap.size wr wr.drew := (Below.refl _ _).drew
          have HAd := HA.out.below hzr
          have HFd := HF.out.below hzr
          have HZd := HZ.out.below hzr
          have HAn : Hid (Al (wr.drew.setCell ⟨kg, 0, none⟩ (.int .u8 (y.toNat : Int))) w.heap.size (.slice (some ⟨g, 0, none⟩) 0 c9) xs) := HAd.turn y hcs
          have HFn : Hid (Hld (wr.drew.setCell ⟨kg, 0, none⟩ (.int .u8 (y.toNat : Int))) w.heap.size (.slice af FL cf) FL) := HFd.turn y
          have HZn : Hid (Hld (wr.drew.setCell ⟨kg, 0, none⟩ (.int .u8 (y.toNat : Int))) w.heap.size (.slice az ZL cz) ZL) := HZd.turn y
          have HBn : Hid (Below w.heap.size w (wr.drew.setCell ⟨kg, 0, none⟩ (.int .u8 (y.toNat : Int)))) := HB.out.drew.trans ((Below.refl _ _).setCell hkg _)
          have hc0' : (wr.drew.setCell ⟨kg, 0, none⟩ (.int .u8 (y.toNat : Int))).cell? ⟨g, k * 7, none⟩ = some (.slice (some ⟨kg, 0, none⟩) KL kcp) := by
            obtain ⟨g9, he9, hc9, _⟩ := HAn.out.at hkx rfl
            simp only [Option.some.injEq, Addr.mk.injEq, and_true] at he9
            subst he9
            rw [← hkv]; exact hc9
          have HC0 : Hid (wr.drew.cell? ⟨g, k * 7, none⟩ = some (.slice (some ⟨kg, 0, none⟩) KL kcp) ∧ wr.drew.cell? ⟨kg, 0, none⟩ = some (.int .u8 (x0 : Int)) ∧ wr.drew.frozen? ⟨kg, 0, none⟩ = false) := ⟨hc0, hcx, hfx⟩
          have HC0' : Hid _ := hc0'
          have hkp' : (KL : Int) > 0 := by omega
          have hkp2 : ¬ KL = 0 := by omega
          have hfd : wr.drew.frozen? ⟨kg, 0, none⟩ = false := hfx
          have hcd : wr.drew.cell? ⟨kg, 0, none⟩ = some (.int .u8 (x0 : Int)) := hcx
          clear hld hcs hkv hkg hkg2 hx0 HAd HFd HZd hc0 hcx hfx hc0'
          go_wp2_with fail
          refine wp_region_noPanic ?_
          refine wp_region_S 14 (fun w' => w'.cell? ⟨g, k * 7, none⟩ = some (.slice (some ⟨kg, 0, none⟩) KL kcp)) (fun w' => w'.cell? ⟨kg, 0, none⟩ = some (.int .u8 (x0 : Int))) (by kernel_rfl) ?_ ?_ (fun hHeld => ?_)
          · exact HC0.out.1
          · exact HC0.out.2.1
          refine wpAnyS_take (i := 0) (v := .slice (some ⟨g, 0, none⟩) 0 c9) _ rfl (by kernel_rfl) (by kernel_rfl) (by kernel_rfl) (by kernel_rfl) (by kernel_rfl) rfl (fun _ _ _ h => h) (Or.inl ⟨by rfl, ?_⟩) hHeld (fun hHeld => ?_)
          · (intro w1 hSw; have hSw := hSw.1; (try dsimp only at hSw); go_simp)
          simp only [List.getElem_toArray, List.getElem_cons_zero, Act.put, List.setIfInBounds_toArray, List.set_cons_zero, List.set_cons_succ]
          refine wpAnyS_take (i := 1) (v := .int .i64 (k : Int)) _ rfl (by kernel_rfl) (by kernel_rfl) (by kernel_rfl) (by kernel_rfl) (by kernel_rfl) rfl (fun _ _ _ h => h) (Or.inl ⟨by rfl, ?_⟩) hHeld (fun hHeld => ?_)
          · (intro w1 hSw; have hSw := hSw.1; (try dsimp only at hSw); go_simp)
          simp only [List.getElem_toArray, List.getElem_cons_succ, List.getElem_cons_zero, Act.put, List.setIfInBounds_toArray, List.set_cons_zero, List.set_cons_succ]
          refine wpAnyS_take (i := 2) (v := .pointer (some ⟨g, k * 7, none⟩)) _ rfl (by kernel_rfl) (by kernel_rfl) (by kernel_rfl) (by kernel_rfl) (by kernel_rfl) rfl (fun _ _ _ h => h) (Or.inl ⟨by rfl, ?_⟩) hHeld (fun hHeld => ?_)
          · (intro w1 hSw; have hSw := hSw.1; (try dsimp only at hSw); go_simp)
          simp only [List.getElem_toArray, List.getElem_cons_succ, List.getElem_cons_zero, Act.put, List.setIfInBounds_toArray, List.set_cons_zero, List.set_cons_succ]
          refine wpAnyS_take (i := 3) (v := .pointer (some ⟨g, k * 7, none⟩)) _ rfl (by kernel_rfl) (by kernel_rfl) (by kernel_rfl) (by kernel_rfl) (by kernel_rfl) rfl (fun _ _ _ h => h) (Or.inl ⟨by rfl, ?_⟩) hHeld (fun hHeld => ?_)
          · (intro w1 hSw; have hSw := hSw.1; (try dsimp only at hSw); go_simp)
          simp only [List.getElem_toArray, List.getElem_cons_succ, List.getElem_cons_zero, Act.put, List.setIfInBounds_toArray, List.set_cons_zero, List.set_cons_succ]
          refine wpAnyS_take (i := 4) (v := .slice (some ⟨kg, 0, none⟩) KL kcp) _ rfl (by kernel_rfl) (by kernel_rfl) (by kernel_rfl) (by kernel_rfl) (by kernel_rfl) rfl (fun _ _ _ h => h) (Or.inl ⟨by rfl, ?_⟩) hHeld (fun hHeld => ?_)
          · (intro w1 hSw; have hSw := hSw.1; (try dsimp only at hSw); go_simp)
          simp only [List.getElem_toArray, List.getElem_cons_succ, List.getElem_cons_zero, Act.put, List.setIfInBounds_toArray, List.set_cons_zero, List.set_cons_succ]
          refine wpAnyS_take (i := 5) (v := .slice (some ⟨g, 0, none⟩) 0 c9) _ rfl (by kernel_rfl) (by kernel_rfl) (by kernel_rfl) (by kernel_rfl) (by kernel_rfl) rfl (fun _ _ _ h => h) (Or.inl ⟨by rfl, ?_⟩) hHeld (fun hHeld => ?_)
          · (intro w1 hSw; have hSw := hSw.1; (try dsimp only at hSw); go_simp)
          simp only [List.getElem_toArray, List.getElem_cons_succ, List.getElem_cons_zero, Act.put, List.setIfInBounds_toArray, List.set_cons_zero, List.set_cons_succ]
          refine wpAnyS_take (i := 6) (v := .int .i64 (k : Int)) _ rfl (by kernel_rfl) (by kernel_rfl) (by kernel_rfl) (by kernel_rfl) (by kernel_rfl) rfl (fun _ _ _ h => h) (Or.inl ⟨by rfl, ?_⟩) hHeld (fun hHeld => ?_)
          · (intro w1 hSw; have hSw := hSw.1; (try dsimp only at hSw); go_simp)
          simp only [List.getElem_toArray, List.getElem_cons_succ, List.getElem_cons_zero, Act.put, List.setIfInBounds_toArray, List.set_cons_zero, List.set_cons_succ]
          refine wpAnyS_take (i := 7) (v := .pointer (some ⟨g, k * 7, none⟩)) _ rfl (by kernel_rfl) (by kernel_rfl) (by kernel_rfl) (by kernel_rfl) (by kernel_rfl) rfl (fun _ _ _ h => h) (Or.inl ⟨by rfl, ?_⟩) hHeld (fun hHeld => ?_)
          · (intro w1 hSw; have hSw := hSw.1; (try dsimp only at hSw); go_simp)
          simp only [List.getElem_toArray, List.getElem_cons_succ, List.getElem_cons_zero, Act.put, List.setIfInBounds_toArray, List.set_cons_zero, List.set_cons_succ]
          refine wpAnyS_take (i := 8) (v := .pointer (some ⟨g, k * 7, none⟩)) _ rfl (by kernel_rfl) (by kernel_rfl) (by kernel_rfl) (by kernel_rfl) (by kernel_rfl) rfl (fun _ _ _ h => h) (Or.inl ⟨by rfl, ?_⟩) hHeld (fun hHeld => ?_)
          · (intro w1 hSw; have hSw := hSw.1; (try dsimp only at hSw); go_simp)
          simp only [List.getElem_toArray, List.getElem_cons_succ, List.getElem_cons_zero, Act.put, List.setIfInBounds_toArray, List.set_cons_zero, List.set_cons_succ]
          refine wpAnyS_take (i := 9) (v := .slice (some ⟨kg, 0, none⟩) KL kcp) _ rfl (by kernel_rfl) (by kernel_rfl) (by kernel_rfl) (by kernel_rfl) (by kernel_rfl) rfl (fun _ _ _ h => h) (Or.inl ⟨by rfl, ?_⟩) hHeld (fun hHeld => ?_)
          · (intro w1 hSw; have hSw := hSw.1; (try dsimp only at hSw); go_simp)
          simp only [List.getElem_toArray, List.getElem_cons_succ, List.getElem_cons_zero, Act.put, List.setIfInBounds_toArray, List.set_cons_zero, List.set_cons_succ]
          refine wpAnyS_take (i := 10) (v := .pointer (some ⟨kg, 0, none⟩)) _ rfl (by kernel_rfl) (by kernel_rfl) (by kernel_rfl) (by kernel_rfl) (by kernel_rfl) rfl (fun _ _ _ h => h) (Or.inl ⟨by rfl, ?_⟩) hHeld (fun hHeld => ?_)
          · (intro w1 hSw; have hSw := hSw.1; (try dsimp only at hSw); go_simp)
          simp only [List.getElem_toArray, List.getElem_cons_succ, List.getElem_cons_zero, Act.put, List.setIfInBounds_toArray, List.set_cons_zero, List.set_cons_succ]
          refine wpAnyS_take (i := 11) (v := .int .u8 (x0 : Int)) true rfl (by kernel_rfl) (by kernel_rfl) (by kernel_rfl) (by kernel_rfl) (by kernel_rfl) (by kernel_rfl) (fun _ _ _ h => h) (Or.inl ⟨by rfl, ?_⟩) hHeld (fun hHeld => ?_)
          · (intro w1 hSw; have hSw2 := hSw.2 rfl; have hSw := hSw.1; (try dsimp only at hSw hSw2); go_simp)
          simp only [List.getElem_toArray, List.getElem_cons_succ, List.getElem_cons_zero, Act.put, List.setIfInBounds_toArray, List.set_cons_zero, List.set_cons_succ]
          refine wpAnyS_take (i := 12) (v := .int .u8 (y.toNat : Int)) _ rfl (by kernel_rfl) (by kernel_rfl) (by kernel_rfl) (by kernel_rfl) (by kernel_rfl) rfl (fun _ _ _ h => h) (Or.inl ⟨by rfl, ?_⟩) hHeld (fun hHeld => ?_)
          · (intro w1 hSw; have hSw := hSw.1; (try dsimp only at hSw); go_simp)
          simp only [List.getElem_toArray, List.getElem_cons_succ, List.getElem_cons_zero, Act.put, List.setIfInBounds_toArray, List.set_cons_zero, List.set_cons_succ]
          refine wpAnyS_take (i := 13) (v := .pointer (some ⟨kg, 0, none⟩)) _ rfl (by kernel_rfl) (by kernel_rfl) (by kernel_rfl) (by kernel_rfl) (by kernel_rfl) rfl (fun _ _ _ h => h) (Or.inl ⟨by rfl, ?_⟩) hHeld (fun hHeld => ?_)
          · (intro w1 hSw; have hSw := hSw.1; (try dsimp only at hSw); go_simp)
          simp only [List.getElem_toArray, List.getElem_cons_succ, List.getElem_cons_zero, Act.put, List.setIfInBounds_toArray, List.set_cons_zero, List.set_cons_succ]
          refine wpAnyS_ready (i := 14) (by kernel_rfl) rfl (fun K hK => ?_)
          go_simp
          refine hK.out _ _ ⟨?_, fun hno => absurd hno (by decide)⟩ (fun hHeld => ?_)
          · exact HC0'.out
          clear hK K
          refine wpAnyS_done (by kernel_rfl) ?_ _
          refine NoPanic.normal ?_
          clear hfd hcd hHeld
          go_wp2_with fail
          go_roundw
          case rel => exact ⟨k + 1, by go_num, by omega, HAn, HFn, HZn, HBn⟩
          case measure => simp [intOf]; omega
        · have hlt' : ¬ (k : Int) < (0 : Int) := by omega
          clear HA
          go_wp2_with fail
          go_loopw [19] (fun i wr => ∃ k : Nat, i = .int .i64 (k : Int) ∧ k ≤ ZL ∧ Hid (Hld wr w.heap.size (.slice af FL cf) FL) ∧ Hid (Hld wr w.heap.size (.slice az ZL cz) ZL) ∧ Hid (Below w.heap.size w wr)) (fun i _ => ZL - (intOf i).toNat)
          case atStart => exact ⟨0, rfl, by omega, HF, HZ, HB⟩
          case round =>
            rename World => wz
            obtain ⟨j, rfl, hj, HFr, HZr, HBr⟩ := hrel
            by_cases hjl : j < ZL
            · have hjl' : (j : Int) < (ZL : Int) := by omega
              obtain ⟨zg, zcp, xz, hzv, hzg, hzg2, _, hcz, hfz, _⟩ := HZr.out.cell hjl
              obtain ⟨fg, fcp, xf, hfv, hfg, hfg2, _, hcf, hff, _⟩ := (HFr.out.turn (g := zg) (i := j) 7).cell (HFZ.out (by omega))
              simp only [Value.slice.injEq] at hzv hfv
              obtain ⟨rfl, -, rfl⟩ := hzv
              obtain ⟨rfl, -, rfl⟩ := hfv
              have e77 : (((7 : UInt8).toNat : Nat) : Int) = 7 := rfl
              have hF0 : ¬ FL = 0 := by have := HFZ.out (by omega); omega
              have hF1 : 0 < FL := by omega
              have HFn : Hid (Hld ((wz.setCell ⟨zg, j, none⟩ (.int .u8 7)).setCell ⟨fg, 0, none⟩ (.int .u8 7)) w.heap.size (.slice (some ⟨fg, 0, none⟩) FL cf) FL) := by have := (HFr.out.turn (g := zg) (i := j) 7).turn (g := fg) (i := 0) 7; rw [e77] at this; exact this
              have HZn : Hid (Hld ((wz.setCell ⟨zg, j, none⟩ (.int .u8 7)).setCell ⟨fg, 0, none⟩ (.int .u8 7)) w.heap.size (.slice (some ⟨zg, 0, none⟩) ZL cz) ZL) := by have := (HZr.out.turn (g := zg) (i := j) 7).turn (g := fg) (i := 0) 7; rw [e77] at this; exact this
              have HBn : Hid (Below w.heap.size w ((wz.setCell ⟨zg, j, none⟩ (.int .u8 7)).setCell ⟨fg, 0, none⟩ (.int .u8 7))) := (HBr.out.trans ((Below.refl _ _).setCell hzg _)).trans ((Below.refl _ _).setCell hfg _)
              rw [e77] at hcf hff
              clear hzg hzg2 hfg hfg2 e77
              go_wp2_with fail
              go_roundw
              case rel => exact ⟨j + 1, by go_num, by omega, HFn, HZn, HBn⟩
              case measure => simp [intOf]; omega
            · have hjl' : ¬ (j : Int) < (ZL : Int) := by omega
              go_wp2_with fail
              go_ret
              exact ⟨rfl, HBr.out⟩
    · have hNp : 0 < N := by omega
      go_wp2_with fail
      go_quiet (fail)
      go_wp2_with fail
      have hbq : Below w1.heap.size w1 (w1.drewN nq) := below_drewN (Below.refl _ _) _
      obtain ⟨W1, HW1⟩ := hid_ex (w1.drewN nq)
      rw [← HW1.out] at hbq ⊢
      have HBq : Hid (Below w.heap.size w W1) := HB1.out.trans (hbq.mono HB1.out.size)
      have hG := tget_any (HTb.out.below HBq.out) _ key (HK.out.below HBq.out)
      rw [HGo.out] at hG
      have HG : Hid (Calls Try.prog 41 #[.pointer (some ⟨B, 0, none⟩), .slice kka KK kkc] W1 _) := hG
      clear hG hbq HW1 HB1 HGo
      refine HG.out.mono ?_
      clear HG
      rintro e w5 ⟨rfl, hb5, _⟩
      have HB5 : Hid (Below w.heap.size w w5) := HBq.out.trans (hb5.mono HBq.out.size)
      rw [show gtA none = aZ from rfl, agV_zero, show (none : Option Ag).isSome = false from rfl]
      have HOn : Hid (([.int .u64 0, .bool false, .int .i64 0, .int .u64 0, .int .i64 0, .int .i64 0] : List Value).toArray.all (·.oneCell') = true) := by unfold Hid; kernel_rfl
      clear hb5 HBq
      go_wp2_with (refine stop_store 41 _ _ rfl ?_)
      refine Stop.of ?_
      refine wpList_storeN rfl _ _ _ rfl w5.heap.size 0 [.int .u64 0, .bool false, .int .i64 0, .int .u64 0, .int .i64 0, .int .i64 0] rfl rfl _ _ (heap_alloc_new _ _) (by simp) (by kernel_rfl) HOn.out ?_
      intro w6 hw6
      obtain ⟨hb6, hx6, _⟩ := stW_nw hw6 (by simp)
      have HB6 : Hid (Below w.heap.size w w6.drew) := (HB5.out.trans (hb6.mono HB5.out.size)).drew
      have q0 := cell_rw hx6 0 (by simp)
      have q1 := cell_rw hx6 1 (by simp)
      have q2 := cell_rw hx6 2 (by simp)
      have q3 := cell_rw hx6 3 (by simp)
      have q4 := cell_rw hx6 4 (by simp)
      have q5 := cell_rw hx6 5 (by simp)
      simp only [List.getElem_toArray, List.getElem_cons_succ, List.getElem_cons_zero] at q0 q1 q2 q3 q4 q5
      have HCs : Hid (w5.heap.size < w6.drew.heap.size ∧ ∀ i (hj : i < 6), w6.drew.cell? ⟨w5.heap.size, i, none⟩ = some (([.int .u64 0, .bool false, .int .i64 0, .int .u64 0, .int .i64 0, .int .i64 0] : List Value)[i]'hj)) := ⟨(Array.getElem?_eq_some_iff.1 hx6).1, fun i hj => by
        match i, hj with
        | 0, _ => exact q0
        | 1, _ => exact q1
        | 2, _ => exact q2
        | 3, _ => exact q3
        | 4, _ => exact q4
        | 5, _ => exact q5⟩
      have HT6 : Hid (Tb w6.drew lw B L) := HTb.out.below HB6.out
      have hLn := tlen_any HT6.out
      rw [HN.out] at hLn
      have HLn : Hid (Calls Try.prog 13 #[.pointer (some ⟨B, 0, none⟩)] w6.drew _) := hLn
      have hMy := tmay_any HT6.out _ key (HK.out.below HB6.out)
      obtain ⟨MY, HMY⟩ := hid_ex (tmyF L key)
      rw [← HMY.out] at hMy
      have HMy : Hid (Calls Try.prog 14 #[.pointer (some ⟨B, 0, none⟩), .slice kka KK kkc] w6.drew _) := hMy
      obtain ⟨W5, HW5⟩ := hid_ex w5.heap.size
      rw [← HW5.out] at HCs ⊢
      clear hLn hMy q0 q1 q2 q3 q4 q5 hx6 hw6 hb6 HB5 HOn HW5
      go_wp2_with fail
      refine wp_region_noPanic ?_
      refine wp_region_held_drew (S := fun w' => Below w6.drew.heap.size w6.drew w') (by kernel_rfl) ?_ (fun hHeld => ?_)
      · exact Below.refl _ _
      refine wpAnyH_take (i := 0) (v := .bool false) rfl (by kernel_rfl) (by kernel_rfl) (by kernel_rfl) (fun _ _ _ h => h) (Or.inl ⟨by rfl, ?_⟩) (by assumption) ?_
      · (intro w1 hSw; (try dsimp only at hSw); go_simp)
      simp only [List.getElem_toArray, List.getElem_cons_zero, Act.put, List.setIfInBounds_toArray, List.set_cons_zero, List.set_cons_succ]
      refine wpAnyH_take (i := 1) (v := .bool false) rfl (by kernel_rfl) (by kernel_rfl) (by kernel_rfl) (fun _ _ _ h => h) (Or.inl ⟨by rfl, ?_⟩) (by assumption) ?_
      · (intro w1 hSw; (try dsimp only at hSw); go_simp)
      simp only [List.getElem_toArray, List.getElem_cons_succ, List.getElem_cons_zero, Act.put, List.setIfInBounds_toArray, List.set_cons_zero, List.set_cons_succ]
      refine wpAnyH_take (i := 2) (v := .bool false) rfl (by kernel_rfl) (by kernel_rfl) (by kernel_rfl) (fun _ _ _ h => h) (Or.inl ⟨by rfl, ?_⟩) (by assumption) ?_
      · (intro w1 hSw; (try dsimp only at hSw); go_simp)
      simp only [List.getElem_toArray, List.getElem_cons_succ, List.getElem_cons_zero, Act.put, List.setIfInBounds_toArray, List.set_cons_zero, List.set_cons_succ]
      refine wpAnyH_take (i := 3) (v := .bool false) rfl (by kernel_rfl) (by kernel_rfl) (by kernel_rfl) (fun _ _ _ h => h) (Or.inl ⟨by rfl, ?_⟩) (by assumption) ?_
      · (intro w1 hSw; (try dsimp only at hSw); go_simp)
      simp only [List.getElem_toArray, List.getElem_cons_succ, List.getElem_cons_zero, Act.put, List.setIfInBounds_toArray, List.set_cons_zero, List.set_cons_succ]
      refine wpAnyH_take (i := 4) (v := .bool false) rfl (by kernel_rfl) (by kernel_rfl) (by kernel_rfl) (fun _ _ _ h => h) (Or.inl ⟨by rfl, ?_⟩) (by assumption) ?_
      · (intro w1 hSw; (try dsimp only at hSw); go_simp)
      simp only [List.getElem_toArray, List.getElem_cons_succ, List.getElem_cons_zero, Act.put, List.setIfInBounds_toArray, List.set_cons_zero, List.set_cons_succ]
      refine wpAnyH_take (i := 5) (v := .bool false) rfl (by kernel_rfl) (by kernel_rfl) (by kernel_rfl) (fun _ _ _ h => h) (Or.inl ⟨by rfl, ?_⟩) (by assumption) ?_
      · (intro w1 hSw; (try dsimp only at hSw); go_simp)
      simp only [List.getElem_toArray, List.getElem_cons_succ, List.getElem_cons_zero, Act.put, List.setIfInBounds_toArray, List.set_cons_zero, List.set_cons_succ]
      refine wpAnyH_take (i := 6) (v := undef) rfl (by kernel_rfl) (by kernel_rfl) (by kernel_rfl) (fun _ _ _ h => h) (Or.inr ⟨by rfl, rfl⟩) (by assumption) ?_
      simp only [List.getElem_toArray, List.getElem_cons_succ, List.getElem_cons_zero, Act.put, List.setIfInBounds_toArray, List.set_cons_zero, List.set_cons_succ]
      refine wpAnyH_take (i := 7) (v := undef) rfl (by kernel_rfl) (by kernel_rfl) (by kernel_rfl) (fun _ _ _ h => h) (Or.inr ⟨by rfl, rfl⟩) (by assumption) ?_
      simp only [List.getElem_toArray, List.getElem_cons_succ, List.getElem_cons_zero, Act.put, List.setIfInBounds_toArray, List.set_cons_zero, List.set_cons_succ]
      refine wpAnyH_take (i := 8) (v := undef) rfl (by kernel_rfl) (by kernel_rfl) (by kernel_rfl) (fun _ _ _ h => h) (Or.inr ⟨by rfl, rfl⟩) (by assumption) ?_
      simp only [List.getElem_toArray, List.getElem_cons_succ, List.getElem_cons_zero, Act.put, List.setIfInBounds_toArray, List.set_cons_zero, List.set_cons_succ]
      refine wpAnyH_take (i := 9) (v := undef) rfl (by kernel_rfl) (by kernel_rfl) (by kernel_rfl) (fun _ _ _ h => h) (Or.inr ⟨by rfl, rfl⟩) (by assumption) ?_
      simp only [List.getElem_toArray, List.getElem_cons_succ, List.getElem_cons_zero, Act.put, List.setIfInBounds_toArray, List.set_cons_zero, List.set_cons_succ]
      refine wpAnyH_take (i := 10) (v := undef) rfl (by kernel_rfl) (by kernel_rfl) (by kernel_rfl) (fun _ _ _ h => h) (Or.inr ⟨by rfl, rfl⟩) (by assumption) ?_
      simp only [List.getElem_toArray, List.getElem_cons_succ, List.getElem_cons_zero, Act.put, List.setIfInBounds_toArray, List.set_cons_zero, List.set_cons_succ]
      refine wpAnyH_take (i := 11) (v := undef) rfl (by kernel_rfl) (by kernel_rfl) (by kernel_rfl) (fun _ _ _ h => h) (Or.inr ⟨by rfl, rfl⟩) (by assumption) ?_
      simp only [List.getElem_toArray, List.getElem_cons_succ, List.getElem_cons_zero, Act.put, List.setIfInBounds_toArray, List.set_cons_zero, List.set_cons_succ]
      refine wpAnyH_take (i := 12) (v := .bool false) rfl (by kernel_rfl) (by kernel_rfl) (by kernel_rfl) (fun _ _ _ h => h) (Or.inl ⟨by rfl, ?_⟩) (by assumption) ?_
      · (intro w1 hSw; (try dsimp only at hSw); go_simp)
      simp only [List.getElem_toArray, List.getElem_cons_succ, List.getElem_cons_zero, Act.put, List.setIfInBounds_toArray, List.set_cons_zero, List.set_cons_succ]
      refine wpAnyH_take (i := 13) (v := .bool false) rfl (by kernel_rfl) (by kernel_rfl) (by kernel_rfl) (fun _ _ _ h => h) (Or.inl ⟨by rfl, ?_⟩) (by assumption) ?_
      · (intro w1 hSw; (try dsimp only at hSw); go_simp)
      simp only [List.getElem_toArray, List.getElem_cons_succ, List.getElem_cons_zero, Act.put, List.setIfInBounds_toArray, List.set_cons_zero, List.set_cons_succ]
      refine wpAnyH_take (i := 14) (v := .bool false) rfl (by kernel_rfl) (by kernel_rfl) (by kernel_rfl) (fun _ _ _ h => h) (Or.inl ⟨by rfl, ?_⟩) (by assumption) ?_
      · (intro w1 hSw; (try dsimp only at hSw); go_simp)
      simp only [List.getElem_toArray, List.getElem_cons_succ, List.getElem_cons_zero, Act.put, List.setIfInBounds_toArray, List.set_cons_zero, List.set_cons_succ]
      refine wpAnyH_take (i := 15) (v := .bool false) rfl (by kernel_rfl) (by kernel_rfl) (by kernel_rfl) (fun _ _ _ h => h) (Or.inl ⟨by rfl, ?_⟩) (by assumption) ?_
      · (intro w1 hSw; (try dsimp only at hSw); go_simp)
      simp only [List.getElem_toArray, List.getElem_cons_succ, List.getElem_cons_zero, Act.put, List.setIfInBounds_toArray, List.set_cons_zero, List.set_cons_succ]
      refine wpAnyH_take (i := 16) (v := .bool true) rfl (by kernel_rfl) (by kernel_rfl) (by kernel_rfl) (fun _ _ _ h => h) (Or.inl ⟨by rfl, ?_⟩) (by assumption) ?_
      · (intro w1 hSw; (try dsimp only at hSw); go_simp)
      simp only [List.getElem_toArray, List.getElem_cons_succ, List.getElem_cons_zero, Act.put, List.setIfInBounds_toArray, List.set_cons_zero, List.set_cons_succ]
      refine wpAnyH_take (i := 17) (v := .bool true) rfl (by kernel_rfl) (by kernel_rfl) (by kernel_rfl) (fun _ _ _ h => h) (Or.inl ⟨by rfl, ?_⟩) (by assumption) ?_
      · (intro w1 hSw; (try dsimp only at hSw); go_simp)
      simp only [List.getElem_toArray, List.getElem_cons_succ, List.getElem_cons_zero, Act.put, List.setIfInBounds_toArray, List.set_cons_zero, List.set_cons_succ]
      refine wpAnyH_take (i := 18) (v := .agg #[.int .u64 0, .bool false, .int .i64 0, .int .u64 0, .int .i64 0, .int .i64 0]) rfl (by kernel_rfl) (by kernel_rfl) (by kernel_rfl) (fun _ _ _ h => h) (Or.inl ⟨by rfl, ?_⟩) (by assumption) ?_
      · (intro w1 hSw; (try dsimp only at hSw); have h0 := (hSw.cell (p := ⟨W5, 0, none⟩) HCs.out.1).trans (HCs.out.2 0 (by decide)); have h1 := (hSw.cell (p := ⟨W5, 1, none⟩) HCs.out.1).trans (HCs.out.2 1 (by decide)); have h2 := (hSw.cell (p := ⟨W5, 2, none⟩) HCs.out.1).trans (HCs.out.2 2 (by decide)); have h3 := (hSw.cell (p := ⟨W5, 3, none⟩) HCs.out.1).trans (HCs.out.2 3 (by decide)); have h4 := (hSw.cell (p := ⟨W5, 4, none⟩) HCs.out.1).trans (HCs.out.2 4 (by decide)); have h5 := (hSw.cell (p := ⟨W5, 5, none⟩) HCs.out.1).trans (HCs.out.2 5 (by decide)); simp only [List.getElem_cons_succ, List.getElem_cons_zero] at h0 h1 h2 h3 h4 h5; go_simp)
      simp only [List.getElem_toArray, List.getElem_cons_succ, List.getElem_cons_zero, Act.put, List.setIfInBounds_toArray, List.set_cons_zero, List.set_cons_succ]
      refine wpAnyH_take (i := 19) (v := .agg #[.int .u64 0, .bool false, .int .i64 0, .int .u64 0, .int .i64 0, .int .i64 0]) rfl (by kernel_rfl) (by kernel_rfl) (by kernel_rfl) (fun _ _ _ h => h) (Or.inl ⟨by rfl, ?_⟩) (by assumption) ?_
      · (intro w1 hSw; (try dsimp only at hSw); go_simp)
      simp only [List.getElem_toArray, List.getElem_cons_succ, List.getElem_cons_zero, Act.put, List.setIfInBounds_toArray, List.set_cons_zero, List.set_cons_succ]
      refine wpAnyH_take (i := 20) (v := .bool false) rfl (by kernel_rfl) (by kernel_rfl) (by kernel_rfl) (fun _ _ _ h => h) (Or.inl ⟨by rfl, ?_⟩) (by assumption) ?_
      · (intro w1 hSw; (try dsimp only at hSw); go_simp)
      simp only [List.getElem_toArray, List.getElem_cons_succ, List.getElem_cons_zero, Act.put, List.setIfInBounds_toArray, List.set_cons_zero, List.set_cons_succ]
      refine wpAnyH_take (i := 21) (v := .bool false) rfl (by kernel_rfl) (by kernel_rfl) (by kernel_rfl) (fun _ _ _ h => h) (Or.inl ⟨by rfl, ?_⟩) (by assumption) ?_
      · (intro w1 hSw; (try dsimp only at hSw); go_simp)
      simp only [List.getElem_toArray, List.getElem_cons_succ, List.getElem_cons_zero, Act.put, List.setIfInBounds_toArray, List.set_cons_zero, List.set_cons_succ]
      refine wpAnyH_take (i := 22) (v := .bool false) rfl (by kernel_rfl) (by kernel_rfl) (by kernel_rfl) (fun _ _ _ h => h) (Or.inl ⟨by rfl, ?_⟩) (by assumption) ?_
      · (intro w1 hSw; (try dsimp only at hSw); go_simp)
      simp only [List.getElem_toArray, List.getElem_cons_succ, List.getElem_cons_zero, Act.put, List.setIfInBounds_toArray, List.set_cons_zero, List.set_cons_succ]
      refine wpAnyH_take (i := 23) (v := .bool false) rfl (by kernel_rfl) (by kernel_rfl) (by kernel_rfl) (fun _ _ _ h => h) (Or.inl ⟨by rfl, ?_⟩) (by assumption) ?_
      · (intro w1 hSw; (try dsimp only at hSw); go_simp)
      simp only [List.getElem_toArray, List.getElem_cons_succ, List.getElem_cons_zero, Act.put, List.setIfInBounds_toArray, List.set_cons_zero, List.set_cons_succ]
      refine wpAnyH_take (i := 24) (v := .pointer (some ⟨B, 0, none⟩)) rfl (by kernel_rfl) (by kernel_rfl) (by kernel_rfl) (fun _ _ _ h => h) (Or.inl ⟨by rfl, ?_⟩) (by assumption) ?_
      · (intro w1 hSw; (try dsimp only at hSw); go_simp)
      simp only [List.getElem_toArray, List.getElem_cons_succ, List.getElem_cons_zero, Act.put, List.setIfInBounds_toArray, List.set_cons_zero, List.set_cons_succ]
      refine wpAnyH_take (i := 26) (v := .slice a N cap) rfl (by kernel_rfl) (by kernel_rfl) (by kernel_rfl) (fun _ _ _ h => h) (Or.inl ⟨by rfl, ?_⟩) (by assumption) ?_
      · (intro w1 hSw; (try dsimp only at hSw); go_simp)
      simp only [List.getElem_toArray, List.getElem_cons_succ, List.getElem_cons_zero, Act.put, List.setIfInBounds_toArray, List.set_cons_zero, List.set_cons_succ]
      refine wpAnyH_take (i := 27) (v := .int .i64 (N : Int)) rfl (by kernel_rfl) (by kernel_rfl) (by kernel_rfl) (fun _ _ _ h => h) (Or.inl ⟨by rfl, ?_⟩) (by assumption) ?_
      · (intro w1 hSw; (try dsimp only at hSw); go_simp)
      simp only [List.getElem_toArray, List.getElem_cons_succ, List.getElem_cons_zero, Act.put, List.setIfInBounds_toArray, List.set_cons_zero, List.set_cons_succ]
      refine wpAnyH_ready (rs := [25]) (by kernel_rfl) (by simp) ?_
      refine AllReadyH.cons (o := _) rfl (fun K hK => ?_) AllReadyH.nil
      go_simp
      refine HLn.out.mono ?_
      clear HLn
      rintro e w6' ⟨rfl, rfl⟩
      go_simp
      refine hK.out _ _ ?_ (fun hHeld => ?_)
      · exact Below.refl _ _
      clear hK K
      refine wpAnyH_take (i := 28) (v := .bool false) rfl (by kernel_rfl) (by kernel_rfl) (by kernel_rfl) (fun _ _ _ h => h) (Or.inl ⟨by rfl, ?_⟩) (by assumption) ?_
      · (intro w1 hSw; (try dsimp only at hSw); go_simp)
      simp only [List.getElem_toArray, List.getElem_cons_succ, List.getElem_cons_zero, Act.put, List.setIfInBounds_toArray, List.set_cons_zero, List.set_cons_succ]
      refine wpAnyH_take (i := 29) (v := .bool false) rfl (by kernel_rfl) (by kernel_rfl) (by kernel_rfl) (fun _ _ _ h => h) (Or.inl ⟨by rfl, ?_⟩) (by assumption) ?_
      · (intro w1 hSw; (try dsimp only at hSw); go_simp)
      simp only [List.getElem_toArray, List.getElem_cons_succ, List.getElem_cons_zero, Act.put, List.setIfInBounds_toArray, List.set_cons_zero, List.set_cons_succ]
      refine wpAnyH_take (i := 30) (v := .bool false) rfl (by kernel_rfl) (by kernel_rfl) (by kernel_rfl) (fun _ _ _ h => h) (Or.inl ⟨by rfl, ?_⟩) (by assumption) ?_
      · (intro w1 hSw; (try dsimp only at hSw); go_simp)
      simp only [List.getElem_toArray, List.getElem_cons_succ, List.getElem_cons_zero, Act.put, List.setIfInBounds_toArray, List.set_cons_zero, List.set_cons_succ]
      refine wpAnyH_take (i := 31) (v := .pointer (some ⟨B, 0, none⟩)) rfl (by kernel_rfl) (by kernel_rfl) (by kernel_rfl) (fun _ _ _ h => h) (Or.inl ⟨by rfl, ?_⟩) (by assumption) ?_
      · (intro w1 hSw; (try dsimp only at hSw); go_simp)
      simp only [List.getElem_toArray, List.getElem_cons_succ, List.getElem_cons_zero, Act.put, List.setIfInBounds_toArray, List.set_cons_zero, List.set_cons_succ]
      refine wpAnyH_take (i := 32) (v := .slice kka KK kkc) rfl (by kernel_rfl) (by kernel_rfl) (by kernel_rfl) (fun _ _ _ h => h) (Or.inl ⟨by rfl, ?_⟩) (by assumption) ?_
      · (intro w1 hSw; (try dsimp only at hSw); go_simp)
      simp only [List.getElem_toArray, List.getElem_cons_succ, List.getElem_cons_zero, Act.put, List.setIfInBounds_toArray, List.set_cons_zero, List.set_cons_succ]
      refine wpAnyH_take (i := 34) (v := .slice a N cap) rfl (by kernel_rfl) (by kernel_rfl) (by kernel_rfl) (fun _ _ _ h => h) (Or.inl ⟨by rfl, ?_⟩) (by assumption) ?_
      · (intro w1 hSw; (try dsimp only at hSw); go_simp)
      simp only [List.getElem_toArray, List.getElem_cons_succ, List.getElem_cons_zero, Act.put, List.setIfInBounds_toArray, List.set_cons_zero, List.set_cons_succ]
      refine wpAnyH_take (i := 35) (v := .slice kka KK kkc) rfl (by kernel_rfl) (by kernel_rfl) (by kernel_rfl) (fun _ _ _ h => h) (Or.inl ⟨by rfl, ?_⟩) (by assumption) ?_
      · (intro w1 hSw; (try dsimp only at hSw); go_simp)
      simp only [List.getElem_toArray, List.getElem_cons_succ, List.getElem_cons_zero, Act.put, List.setIfInBounds_toArray, List.set_cons_zero, List.set_cons_succ]
      refine wpAnyH_ready (rs := [33]) (by kernel_rfl) (by simp) ?_
      refine AllReadyH.cons (o := _) rfl (fun K hK => ?_) AllReadyH.nil
      go_simp
      refine HMy.out.mono ?_
      clear HMy
      rintro e w7 ⟨rfl, hb7⟩
      go_simp
      refine hK.out _ _ ?_ (fun hHeld => ?_)
      · exact hb7
      clear hK K
      have hrm := refMay10_any _ _ L key w7 (HR.out.below (HB6.out.trans (hb7.mono HB6.out.size))) (HK.out.below (HB6.out.trans (hb7.mono HB6.out.size))) (by have := HKB.out; omega) HOk.out
      rw [← HMY.out] at hrm
      have HRm : Hid (Calls Try.prog 42 #[.slice a N cap, .slice kka KK kkc] w7 _) := hrm
      clear hrm
      refine wpAnyH_ready (rs := [36]) (by kernel_rfl) (by simp) ?_
      refine AllReadyH.cons (o := _) rfl (fun K hK => ?_) AllReadyH.nil
      go_simp
      refine HRm.out.mono ?_
      clear HRm
      rintro e w8 ⟨rfl, hb8⟩
      go_simp
      refine hK.out _ _ ?_ (fun hHeld => ?_)
      · exact hb7.trans (hb8.mono hb7.size)
      clear hK K
      refine wpAnyH_take (i := 37) (v := .bool false) rfl (by kernel_rfl) (by kernel_rfl) (by kernel_rfl) (fun _ _ _ h => h) (Or.inl ⟨by rfl, ?_⟩) (by assumption) ?_
      · (intro w1 hSw; (try dsimp only at hSw); go_simp)
      simp only [List.getElem_toArray, List.getElem_cons_succ, List.getElem_cons_zero, Act.put, List.setIfInBounds_toArray, List.set_cons_zero, List.set_cons_succ]
      refine wpAnyH_take (i := 38) (v := .bool false) rfl (by kernel_rfl) (by kernel_rfl) (by kernel_rfl) (fun _ _ _ h => h) (Or.inl ⟨by rfl, ?_⟩) (by assumption) ?_
      · (intro w1 hSw; (try dsimp only at hSw); go_simp)
      simp only [List.getElem_toArray, List.getElem_cons_succ, List.getElem_cons_zero, Act.put, List.setIfInBounds_toArray, List.set_cons_zero, List.set_cons_succ]
      refine wpAnyH_done (by kernel_rfl) ?_ _
      refine NoPanic.normal ?_
      have HB8 : Hid (Below w.heap.size w w8) := HB6.out.trans ((hb7.trans (hb8.mono hb7.size)).mono HB6.out.size)
      have HT8 : Hid (Tb w8 lw B L) := HTb.out.below HB8.out
      clear hb7 hb8 hHeld HT6 HMY HCs HB6
      go_wp2_with fail
      refine (tall_any HT8.out).mono ?_
      rintro e w9 ⟨v9, xs, rfl, hxs, hto9, hb9⟩
      have HB9 : Hid (Below w.heap.size w w9) := HB8.out.trans (hb9.mono HB8.out.size)
      have HT9 : Hid (Tb w9 lw B L) := HTb.out.below HB9.out
      have HXs : Hid (xs.map Ee.e = L) := hxs
      have HXl : Hid (xs.length = N) := by unfold Hid; rw [← HN.out, ← hxs, List.length_map]
      obtain ⟨a9, c9, hv9, _⟩ := hto9.form
      rw [HXl.out] at hv9
      subst hv9
      have HA9 : Hid (TOwn w9 w.heap.size (.slice a9 N c9) xs) := hto9.mono HB8.out.size
      clear hxs hto9 hb9 HT8 HB8
      have HSe : Hid (Calls Try.prog 44 #[.pointer (some ⟨B, 0, none⟩), .slice kka KK kkc, .int .i64 m] w9 _) := tseekI_any HT9.out _ key (HK.out.below HB9.out) m HM.out
      go_wp2_with fail
      refine HSe.out.mono ?_
      clear HSe
      rintro e w10 ⟨v10, ys, rfl, hys, hto10, hb10⟩
      have HB10 : Hid (Below w.heap.size w w10) := HB9.out.trans (hb10.mono HB9.out.size)
      have HT10 : Hid (Tb w10 lw B L) := HTb.out.below HB10.out
      have HYs : Hid (ys.map Ee.e = skI L key m) := hys
      obtain ⟨YL, HYl⟩ : ∃ n, Hid (ys.length = n) := ⟨_, rfl⟩
      obtain ⟨a10, c10, hv10, _⟩ := hto10.form
      rw [HYl.out] at hv10
      subst hv10
      have HA10 : Hid (TOwn w10 w.heap.size (.slice a9 N c9) xs) := HA9.out.below hb10
      have HY10 : Hid (TOwn w10 w9.heap.size (.slice a10 YL c10) ys) := hto10
      clear hys hto10 hb10 HT9 HA9
      go_wp2_with fail
      refine (tends_any HT10.out).mono ?_
      rintro e w11 ⟨fv, zv, rfl, hof, hoz, hb11⟩
      have HB11 : Hid (Below w.heap.size w w11) := HB10.out.trans (hb11.mono HB10.out.size)
      have HBd : Hid (Below w.heap.size w w11.drew) := HB11.out.drew
      have HA11 : Hid (TOwn w11 w.heap.size (.slice a9 N c9) xs) := HA10.out.below hb11
      have hdd : Below w11.heap.size w11 w11.drew := (Below.refl _ _).drew
      have hta := HA11.out.reads
      rw [HXs.out] at hta
      have HTA : Hid (TRd w11.drew (.slice a9 N c9) L) := hta.below hdd
      have hty := (HY10.out.below hb11).reads
      rw [HYs.out] at hty
      have HTY : Hid (TRd w11.drew (.slice a10 YL c10) (skI L key m)) := hty.below hdd
      obtain ⟨FL, HFL⟩ : ∃ n, Hid ((keyF L).length = n) := ⟨_, rfl⟩
      obtain ⟨ZL, HZL⟩ : ∃ n, Hid ((keyZ L).length = n) := ⟨_, rfl⟩
      obtain ⟨af, cf, hfv, _⟩ := hof.form
      obtain ⟨az, cz, hzv, _⟩ := hoz.form
      rw [HFL.out] at hfv
      rw [HZL.out] at hzv
      subst hfv
      subst hzv
      have HOf : Hid (Own w11.drew w10.heap.size (.slice af FL cf) (keyF L)) := hof.below hdd
      have HOz : Hid (Own w11.drew w10.heap.size (.slice az ZL cz) (keyZ L)) := hoz.below hdd
      have HSm1 : Hid (Calls Try.prog 46 #[.slice a9 N c9, .slice a N cap] w11.drew _) := same10_true _ _ L w11.drew HTA.out (HR.out.below HBd.out)
      clear hta hty hof hoz hb11 hdd HT10 HA10 HY10 HTA HXl
      rw [show decide (0 < L.length) = true from by rw [HN.out]; exact decide_eq_true hNp]
      obtain ⟨Q, HQ⟩ : ∃ q, Hid (N - 1 = q) := ⟨_, rfl⟩
      have hQN : Q < L.length := by rw [HN.out, ← HQ.out]; omega
      have hL0 : 0 < L.length := by rw [HN.out]; exact hNp
      obtain ⟨b2, off2, kf, he2, hbw2, hcs2, hrf, hag2⟩ := HR.out.at (j := 0) hL0 rfl
      subst he2
      obtain ⟨b3, off3, kz, he3, hbw3, hcs3, hrz, hag3⟩ := HR.out.at (j := Q) hQN rfl
      simp only [Option.some.injEq, Addr.mk.injEq, and_true] at he3
      obtain ⟨rfl, rfl⟩ := he3
      rw [← keyF_of hL0] at hrf
      rw [show (L[Q]'hQN).1 = keyZ L from by rw [keyZ_of (by omega)]; congr 2; rw [HN.out, HQ.out]] at hrz
      have cF := hcs2 0 (by decide)
      have cZ := hcs3 0 (by decide)
      simp only [e7, List.getElem_cons_zero, Nat.add_zero, Nat.zero_mul] at cF cZ
      obtain ⟨fa, fc, hkf, _⟩ := hrf.form
      obtain ⟨za, zc, hkz, _⟩ := hrz.form
      rw [HFL.out] at hkf
      rw [HZL.out] at hkz
      subst hkf
      subst hkz
      have HCF : Hid (b2 < w11.drew.heap.size ∧ w11.drew.cell? ⟨b2, off2, none⟩ = some (.slice fa FL fc) ∧ w11.drew.cell? ⟨b2, off2 + Q * 7, none⟩ = some (.slice za ZL zc)) := ⟨Nat.lt_of_lt_of_le hbw2 HBd.out.size, (HBd.out.cell (p := ⟨b2, off2, none⟩) hbw2).trans cF, (HBd.out.cell (p := ⟨b2, off2 + Q * 7, none⟩) hbw2).trans cZ⟩
      obtain ⟨FK, HFK⟩ := hid_ex (keyF L)
      obtain ⟨ZK, HZK⟩ := hid_ex (keyZ L)
      rw [← HFK.out] at hrf
      rw [← HZK.out] at hrz
      have HRF : Hid (Reads w11.drew (.slice fa FL fc) FK) := hrf.below HBd.out
      have HRZ : Hid (Reads w11.drew (.slice za ZL zc) ZK) := hrz.below HBd.out
      have HRf : Hid (Reads w11.drew (.slice af FL cf) FK) := by rw [HFK.out]; exact HOf.out.reads
      have HRz : Hid (Reads w11.drew (.slice az ZL cz) ZK) := by rw [HZK.out]; exact HOz.out.reads
      have hQs : (N : Int) - 1 = (Q : Int) := by have := HQ.out; omega
      have hQw : IntKind.i64.wrap (Q : Int) = (Q : Int) := by have := HQ.out; simp [IntKind.wrap, IntKind.bits, IntKind.signed]; omega
      have hQN2 : Q < N := by have := HQ.out; omega
      have hQN3 : ¬ N ≤ Q := by omega
      have hN0' : ¬ N = 0 := by omega
      clear hrf hrz cF cZ hag2 hag3 hcs2 hcs3 hbw2 hbw3 HFK HZK hQN hL0
      go_wp2_with fail
      refine wp_region_noPanic ?_
      refine wp_region_held_drew (S := fun w' => Below w11.drew.heap.size w11.drew w') (by kernel_rfl) ?_ (fun hHeld => ?_)
      · exact Below.refl _ _
      refine wpAnyH_take (i := 0) (v := .slice a9 N c9) rfl (by kernel_rfl) (by kernel_rfl) (by kernel_rfl) (fun _ _ _ h => h) (Or.inl ⟨by rfl, ?_⟩) (by assumption) ?_
      · (intro w1 hSw; (try dsimp only at hSw); go_simp)
      simp only [List.getElem_toArray, List.getElem_cons_zero, Act.put, List.setIfInBounds_toArray, List.set_cons_zero, List.set_cons_succ]
      refine wpAnyH_take (i := 1) (v := .slice (some ⟨b2, off2, none⟩) N cap) rfl (by kernel_rfl) (by kernel_rfl) (by kernel_rfl) (fun _ _ _ h => h) (Or.inl ⟨by rfl, ?_⟩) (by assumption) ?_
      · (intro w1 hSw; (try dsimp only at hSw); go_simp)
      simp only [List.getElem_toArray, List.getElem_cons_succ, List.getElem_cons_zero, Act.put, List.setIfInBounds_toArray, List.set_cons_zero, List.set_cons_succ]
      refine wpAnyH_ready (rs := [2]) (by kernel_rfl) (by simp) ?_
      refine AllReadyH.cons (o := _) rfl (fun K hK => ?_) AllReadyH.nil
      go_simp
      refine HSm1.out.mono ?_
      clear HSm1
      rintro e w12 ⟨rfl, hb12⟩
      go_simp
      refine hK.out _ _ ?_ (fun hHeld => ?_)
      · exact hb12
      clear hK K
      refine wpAnyH_take (i := 3) (v := .bool false) rfl (by kernel_rfl) (by kernel_rfl) (by kernel_rfl) (fun _ _ _ h => h) (Or.inl ⟨by rfl, ?_⟩) (by assumption) ?_
      · (intro w1 hSw; (try dsimp only at hSw); go_simp)
      simp only [List.getElem_toArray, List.getElem_cons_succ, List.getElem_cons_zero, Act.put, List.setIfInBounds_toArray, List.set_cons_zero, List.set_cons_succ]
      refine wpAnyH_take (i := 4) (v := .bool false) rfl (by kernel_rfl) (by kernel_rfl) (by kernel_rfl) (fun _ _ _ h => h) (Or.inl ⟨by rfl, ?_⟩) (by assumption) ?_
      · (intro w1 hSw; (try dsimp only at hSw); go_simp)
      simp only [List.getElem_toArray, List.getElem_cons_succ, List.getElem_cons_zero, Act.put, List.setIfInBounds_toArray, List.set_cons_zero, List.set_cons_succ]
      refine wpAnyH_take (i := 5) (v := .slice a10 YL c10) rfl (by kernel_rfl) (by kernel_rfl) (by kernel_rfl) (fun _ _ _ h => h) (Or.inl ⟨by rfl, ?_⟩) (by assumption) ?_
      · (intro w1 hSw; (try dsimp only at hSw); go_simp)
      simp only [List.getElem_toArray, List.getElem_cons_succ, List.getElem_cons_zero, Act.put, List.setIfInBounds_toArray, List.set_cons_zero, List.set_cons_succ]
      refine wpAnyH_take (i := 6) (v := .slice (some ⟨b2, off2, none⟩) N cap) rfl (by kernel_rfl) (by kernel_rfl) (by kernel_rfl) (fun _ _ _ h => h) (Or.inl ⟨by rfl, ?_⟩) (by assumption) ?_
      · (intro w1 hSw; (try dsimp only at hSw); go_simp)
      simp only [List.getElem_toArray, List.getElem_cons_succ, List.getElem_cons_zero, Act.put, List.setIfInBounds_toArray, List.set_cons_zero, List.set_cons_succ]
      refine wpAnyH_take (i := 7) (v := .slice kka KK kkc) rfl (by kernel_rfl) (by kernel_rfl) (by kernel_rfl) (fun _ _ _ h => h) (Or.inl ⟨by rfl, ?_⟩) (by assumption) ?_
      · (intro w1 hSw; (try dsimp only at hSw); go_simp)
      simp only [List.getElem_toArray, List.getElem_cons_succ, List.getElem_cons_zero, Act.put, List.setIfInBounds_toArray, List.set_cons_zero, List.set_cons_succ]
      refine wpAnyH_take (i := 8) (v := .int .i64 m) rfl (by kernel_rfl) (by kernel_rfl) (by kernel_rfl) (fun _ _ _ h => h) (Or.inl ⟨by rfl, ?_⟩) (by assumption) ?_
      · (intro w1 hSw; (try dsimp only at hSw); go_simp)
      simp only [List.getElem_toArray, List.getElem_cons_succ, List.getElem_cons_zero, Act.put, List.setIfInBounds_toArray, List.set_cons_zero, List.set_cons_succ]
      have HB12 : Hid (Below w.heap.size w w12) := HBd.out.trans (hb12.mono HBd.out.size)
      have HRs : Hid (Calls Try.prog 40 #[.slice (some ⟨b2, off2, none⟩) N cap, .slice kka KK kkc, .int .i64 m] w12 _) := refSeek10_any _ _ L key m w12 (HR.out.below HB12.out) (HK.out.below HB12.out) (by rw [HN.out]; omega)
      refine wpAnyH_ready (rs := [9]) (by kernel_rfl) (by simp) ?_
      refine AllReadyH.cons (o := _) rfl (fun K hK => ?_) AllReadyH.nil
      go_simp
      refine HRs.out.mono ?_
      clear HRs
      rintro e w13 ⟨v13, rfl, hs13, hb13⟩
      go_simp
      refine hK.out _ _ ?_ (fun hHeld => ?_)
      · exact hb12.trans (hb13.mono hb12.size)
      clear hK K
      have hsm2 := same10_true _ v13 _ w13 ((HTY.out.below hb12).below hb13) (hs13.reads hb13)
      obtain ⟨a13, c13, hv13, _⟩ := hs13.form
      obtain ⟨SL, HSL⟩ : ∃ n, Hid ((skI L key m).length = n) := ⟨_, rfl⟩
      rw [HSL.out] at hv13
      subst hv13
      have HSm2 : Hid (Calls Try.prog 46 #[.slice a10 YL c10, .slice a13 SL c13] w13 _) := hsm2
      clear hsm2 hs13
      refine wpAnyH_ready (rs := [10]) (by kernel_rfl) (by simp) ?_
      refine AllReadyH.cons (o := _) rfl (fun K hK => ?_) AllReadyH.nil
      go_simp
      refine HSm2.out.mono ?_
      clear HSm2
      rintro e w14 ⟨rfl, hb14⟩
      go_simp
      refine hK.out _ _ ?_ (fun hHeld => ?_)
      · exact (hb12.trans (hb13.mono hb12.size)).trans (hb14.mono (Nat.le_trans hb12.size hb13.size))
      clear hK K
      refine wpAnyH_take (i := 11) (v := .bool false) rfl (by kernel_rfl) (by kernel_rfl) (by kernel_rfl) (fun _ _ _ h => h) (Or.inl ⟨by rfl, ?_⟩) (by assumption) ?_
      · (intro w1 hSw; (try dsimp only at hSw); go_simp)
      simp only [List.getElem_toArray, List.getElem_cons_succ, List.getElem_cons_zero, Act.put, List.setIfInBounds_toArray, List.set_cons_zero, List.set_cons_succ]
      refine wpAnyH_take (i := 12) (v := .bool false) rfl (by kernel_rfl) (by kernel_rfl) (by kernel_rfl) (fun _ _ _ h => h) (Or.inl ⟨by rfl, ?_⟩) (by assumption) ?_
      · (intro w1 hSw; (try dsimp only at hSw); go_simp)
      simp only [List.getElem_toArray, List.getElem_cons_succ, List.getElem_cons_zero, Act.put, List.setIfInBounds_toArray, List.set_cons_zero, List.set_cons_succ]
      refine wpAnyH_take (i := 13) (v := .bool false) rfl (by kernel_rfl) (by kernel_rfl) (by kernel_rfl) (fun _ _ _ h => h) (Or.inl ⟨by rfl, ?_⟩) (by assumption) ?_
      · (intro w1 hSw; (try dsimp only at hSw); go_simp)
      simp only [List.getElem_toArray, List.getElem_cons_succ, List.getElem_cons_zero, Act.put, List.setIfInBounds_toArray, List.set_cons_zero, List.set_cons_succ]
      refine wpAnyH_take (i := 14) (v := .bool true) rfl (by kernel_rfl) (by kernel_rfl) (by kernel_rfl) (fun _ _ _ h => h) (Or.inl ⟨by rfl, ?_⟩) (by assumption) ?_
      · (intro w1 hSw; (try dsimp only at hSw); go_simp)
      simp only [List.getElem_toArray, List.getElem_cons_succ, List.getElem_cons_zero, Act.put, List.setIfInBounds_toArray, List.set_cons_zero, List.set_cons_succ]
      refine wpAnyH_take (i := 15) (v := .slice (some ⟨b2, off2, none⟩) N cap) rfl (by kernel_rfl) (by kernel_rfl) (by kernel_rfl) (fun _ _ _ h => h) (Or.inl ⟨by rfl, ?_⟩) (by assumption) ?_
      · (intro w1 hSw; (try dsimp only at hSw); go_simp)
      simp only [List.getElem_toArray, List.getElem_cons_succ, List.getElem_cons_zero, Act.put, List.setIfInBounds_toArray, List.set_cons_zero, List.set_cons_succ]
      refine wpAnyH_take (i := 16) (v := .int .i64 (N : Int)) rfl (by kernel_rfl) (by kernel_rfl) (by kernel_rfl) (fun _ _ _ h => h) (Or.inl ⟨by rfl, ?_⟩) (by assumption) ?_
      · (intro w1 hSw; (try dsimp only at hSw); go_simp)
      simp only [List.getElem_toArray, List.getElem_cons_succ, List.getElem_cons_zero, Act.put, List.setIfInBounds_toArray, List.set_cons_zero, List.set_cons_succ]
      refine wpAnyH_take (i := 17) (v := .bool true) rfl (by kernel_rfl) (by kernel_rfl) (by kernel_rfl) (fun _ _ _ h => h) (Or.inl ⟨by rfl, ?_⟩) (by assumption) ?_
      · (intro w1 hSw; (try dsimp only at hSw); go_simp)
      simp only [List.getElem_toArray, List.getElem_cons_succ, List.getElem_cons_zero, Act.put, List.setIfInBounds_toArray, List.set_cons_zero, List.set_cons_succ]
      refine wpAnyH_take (i := 18) (v := .bool false) rfl (by kernel_rfl) (by kernel_rfl) (by kernel_rfl) (fun _ _ _ h => h) (Or.inl ⟨by rfl, ?_⟩) (by assumption) ?_
      · (intro w1 hSw; (try dsimp only at hSw); go_simp)
      simp only [List.getElem_toArray, List.getElem_cons_succ, List.getElem_cons_zero, Act.put, List.setIfInBounds_toArray, List.set_cons_zero, List.set_cons_succ]
      refine wpAnyH_take (i := 19) (v := .bool false) rfl (by kernel_rfl) (by kernel_rfl) (by kernel_rfl) (fun _ _ _ h => h) (Or.inl ⟨by rfl, ?_⟩) (by assumption) ?_
      · (intro w1 hSw; (try dsimp only at hSw); go_simp)
      simp only [List.getElem_toArray, List.getElem_cons_succ, List.getElem_cons_zero, Act.put, List.setIfInBounds_toArray, List.set_cons_zero, List.set_cons_succ]
      refine wpAnyH_take (i := 20) (v := .bool false) rfl (by kernel_rfl) (by kernel_rfl) (by kernel_rfl) (fun _ _ _ h => h) (Or.inl ⟨by rfl, ?_⟩) (by assumption) ?_
      · (intro w1 hSw; (try dsimp only at hSw); go_simp)
      simp only [List.getElem_toArray, List.getElem_cons_succ, List.getElem_cons_zero, Act.put, List.setIfInBounds_toArray, List.set_cons_zero, List.set_cons_succ]
      refine wpAnyH_take (i := 21) (v := .bool true) rfl (by kernel_rfl) (by kernel_rfl) (by kernel_rfl) (fun _ _ _ h => h) (Or.inl ⟨by rfl, ?_⟩) (by assumption) ?_
      · (intro w1 hSw; (try dsimp only at hSw); go_simp)
      simp only [List.getElem_toArray, List.getElem_cons_succ, List.getElem_cons_zero, Act.put, List.setIfInBounds_toArray, List.set_cons_zero, List.set_cons_succ]
      refine wpAnyH_take (i := 22) (v := .bool true) rfl (by kernel_rfl) (by kernel_rfl) (by kernel_rfl) (fun _ _ _ h => h) (Or.inl ⟨by rfl, ?_⟩) (by assumption) ?_
      · (intro w1 hSw; (try dsimp only at hSw); go_simp)
      simp only [List.getElem_toArray, List.getElem_cons_succ, List.getElem_cons_zero, Act.put, List.setIfInBounds_toArray, List.set_cons_zero, List.set_cons_succ]
      refine wpAnyH_take (i := 23) (v := .slice af FL cf) rfl (by kernel_rfl) (by kernel_rfl) (by kernel_rfl) (fun _ _ _ h => h) (Or.inl ⟨by rfl, ?_⟩) (by assumption) ?_
      · (intro w1 hSw; (try dsimp only at hSw); go_simp)
      simp only [List.getElem_toArray, List.getElem_cons_succ, List.getElem_cons_zero, Act.put, List.setIfInBounds_toArray, List.set_cons_zero, List.set_cons_succ]
      refine wpAnyH_take (i := 24) (v := .string ⟨FK.toArray⟩) rfl (by kernel_rfl) (by kernel_rfl) (by kernel_rfl) (fun _ _ _ h => h) (Or.inl ⟨by rfl, ?_⟩) (by assumption) ?_
      · (intro w1 hSw; (try dsimp only at hSw); have h0 := reads_text (HRf.out.below hSw); go_simp)
      simp only [List.getElem_toArray, List.getElem_cons_succ, List.getElem_cons_zero, Act.put, List.setIfInBounds_toArray, List.set_cons_zero, List.set_cons_succ]
      refine wpAnyH_take (i := 25) (v := .slice (some ⟨b2, off2, none⟩) N cap) rfl (by kernel_rfl) (by kernel_rfl) (by kernel_rfl) (fun _ _ _ h => h) (Or.inl ⟨by rfl, ?_⟩) (by assumption) ?_
      · (intro w1 hSw; (try dsimp only at hSw); go_simp)
      simp only [List.getElem_toArray, List.getElem_cons_succ, List.getElem_cons_zero, Act.put, List.setIfInBounds_toArray, List.set_cons_zero, List.set_cons_succ]
      refine wpAnyH_take (i := 26) (v := .pointer (some ⟨b2, off2, none⟩)) rfl (by kernel_rfl) (by kernel_rfl) (by kernel_rfl) (fun _ _ _ h => h) (Or.inl ⟨by rfl, ?_⟩) (by assumption) ?_
      · (intro w1 hSw; (try dsimp only at hSw); go_simp)
      simp only [List.getElem_toArray, List.getElem_cons_succ, List.getElem_cons_zero, Act.put, List.setIfInBounds_toArray, List.set_cons_zero, List.set_cons_succ]
      refine wpAnyH_take (i := 27) (v := .pointer (some ⟨b2, off2, none⟩)) rfl (by kernel_rfl) (by kernel_rfl) (by kernel_rfl) (fun _ _ _ h => h) (Or.inl ⟨by rfl, ?_⟩) (by assumption) ?_
      · (intro w1 hSw; (try dsimp only at hSw); go_simp)
      simp only [List.getElem_toArray, List.getElem_cons_succ, List.getElem_cons_zero, Act.put, List.setIfInBounds_toArray, List.set_cons_zero, List.set_cons_succ]
      refine wpAnyH_take (i := 28) (v := .slice fa FL fc) rfl (by kernel_rfl) (by kernel_rfl) (by kernel_rfl) (fun _ _ _ h => h) (Or.inl ⟨by rfl, ?_⟩) (by assumption) ?_
      · (intro w1 hSw; (try dsimp only at hSw); have h0 := (hSw.cell (p := ⟨b2, off2, none⟩) HCF.out.1).trans HCF.out.2.1; go_simp)
      simp only [List.getElem_toArray, List.getElem_cons_succ, List.getElem_cons_zero, Act.put, List.setIfInBounds_toArray, List.set_cons_zero, List.set_cons_succ]
      refine wpAnyH_take (i := 29) (v := .string ⟨FK.toArray⟩) rfl (by kernel_rfl) (by kernel_rfl) (by kernel_rfl) (fun _ _ _ h => h) (Or.inl ⟨by rfl, ?_⟩) (by assumption) ?_
      · (intro w1 hSw; (try dsimp only at hSw); have h0 := reads_text (HRF.out.below hSw); go_simp)
      simp only [List.getElem_toArray, List.getElem_cons_succ, List.getElem_cons_zero, Act.put, List.setIfInBounds_toArray, List.set_cons_zero, List.set_cons_succ]
      refine wpAnyH_take (i := 30) (v := .bool false) rfl (by kernel_rfl) (by kernel_rfl) (by kernel_rfl) (fun _ _ _ h => h) (Or.inl ⟨by rfl, ?_⟩) (by assumption) ?_
      · (intro w1 hSw; (try dsimp only at hSw); go_simp)
      simp only [List.getElem_toArray, List.getElem_cons_succ, List.getElem_cons_zero, Act.put, List.setIfInBounds_toArray, List.set_cons_zero, List.set_cons_succ]
      refine wpAnyH_take (i := 31) (v := .bool false) rfl (by kernel_rfl) (by kernel_rfl) (by kernel_rfl) (fun _ _ _ h => h) (Or.inl ⟨by rfl, ?_⟩) (by assumption) ?_
      · (intro w1 hSw; (try dsimp only at hSw); go_simp)
      simp only [List.getElem_toArray, List.getElem_cons_succ, List.getElem_cons_zero, Act.put, List.setIfInBounds_toArray, List.set_cons_zero, List.set_cons_succ]
      refine wpAnyH_take (i := 32) (v := .slice az ZL cz) rfl (by kernel_rfl) (by kernel_rfl) (by kernel_rfl) (fun _ _ _ h => h) (Or.inl ⟨by rfl, ?_⟩) (by assumption) ?_
      · (intro w1 hSw; (try dsimp only at hSw); go_simp)
      simp only [List.getElem_toArray, List.getElem_cons_succ, List.getElem_cons_zero, Act.put, List.setIfInBounds_toArray, List.set_cons_zero, List.set_cons_succ]
      refine wpAnyH_take (i := 33) (v := .string ⟨ZK.toArray⟩) rfl (by kernel_rfl) (by kernel_rfl) (by kernel_rfl) (fun _ _ _ h => h) (Or.inl ⟨by rfl, ?_⟩) (by assumption) ?_
      · (intro w1 hSw; (try dsimp only at hSw); have h0 := reads_text (HRz.out.below hSw); go_simp)
      simp only [List.getElem_toArray, List.getElem_cons_succ, List.getElem_cons_zero, Act.put, List.setIfInBounds_toArray, List.set_cons_zero, List.set_cons_succ]
      refine wpAnyH_take (i := 34) (v := .slice (some ⟨b2, off2, none⟩) N cap) rfl (by kernel_rfl) (by kernel_rfl) (by kernel_rfl) (fun _ _ _ h => h) (Or.inl ⟨by rfl, ?_⟩) (by assumption) ?_
      · (intro w1 hSw; (try dsimp only at hSw); go_simp)
      simp only [List.getElem_toArray, List.getElem_cons_succ, List.getElem_cons_zero, Act.put, List.setIfInBounds_toArray, List.set_cons_zero, List.set_cons_succ]
      refine wpAnyH_take (i := 35) (v := .slice (some ⟨b2, off2, none⟩) N cap) rfl (by kernel_rfl) (by kernel_rfl) (by kernel_rfl) (fun _ _ _ h => h) (Or.inl ⟨by rfl, ?_⟩) (by assumption) ?_
      · (intro w1 hSw; (try dsimp only at hSw); go_simp)
      simp only [List.getElem_toArray, List.getElem_cons_succ, List.getElem_cons_zero, Act.put, List.setIfInBounds_toArray, List.set_cons_zero, List.set_cons_succ]
      refine wpAnyH_take (i := 36) (v := .int .i64 (N : Int)) rfl (by kernel_rfl) (by kernel_rfl) (by kernel_rfl) (fun _ _ _ h => h) (Or.inl ⟨by rfl, ?_⟩) (by assumption) ?_
      · (intro w1 hSw; (try dsimp only at hSw); go_simp)
      simp only [List.getElem_toArray, List.getElem_cons_succ, List.getElem_cons_zero, Act.put, List.setIfInBounds_toArray, List.set_cons_zero, List.set_cons_succ]
      refine wpAnyH_take (i := 37) (v := .int .i64 (Q : Int)) rfl (by kernel_rfl) (by kernel_rfl) (by kernel_rfl) (fun _ _ _ h => h) (Or.inl ⟨by rfl, ?_⟩) (by assumption) ?_
      · (intro w1 hSw; (try dsimp only at hSw); go_simp)
      simp only [List.getElem_toArray, List.getElem_cons_succ, List.getElem_cons_zero, Act.put, List.setIfInBounds_toArray, List.set_cons_zero, List.set_cons_succ]
      refine wpAnyH_take (i := 38) (v := .pointer (some ⟨b2, off2 + Q * 7, none⟩)) rfl (by kernel_rfl) (by kernel_rfl) (by kernel_rfl) (fun _ _ _ h => h) (Or.inl ⟨by rfl, ?_⟩) (by assumption) ?_
      · (intro w1 hSw; (try dsimp only at hSw); go_simp)
      simp only [List.getElem_toArray, List.getElem_cons_succ, List.getElem_cons_zero, Act.put, List.setIfInBounds_toArray, List.set_cons_zero, List.set_cons_succ]
      refine wpAnyH_take (i := 39) (v := .pointer (some ⟨b2, off2 + Q * 7, none⟩)) rfl (by kernel_rfl) (by kernel_rfl) (by kernel_rfl) (fun _ _ _ h => h) (Or.inl ⟨by rfl, ?_⟩) (by assumption) ?_
      · (intro w1 hSw; (try dsimp only at hSw); go_simp)
      simp only [List.getElem_toArray, List.getElem_cons_succ, List.getElem_cons_zero, Act.put, List.setIfInBounds_toArray, List.set_cons_zero, List.set_cons_succ]
      refine wpAnyH_take (i := 40) (v := .slice za ZL zc) rfl (by kernel_rfl) (by kernel_rfl) (by kernel_rfl) (fun _ _ _ h => h) (Or.inl ⟨by rfl, ?_⟩) (by assumption) ?_
      · (intro w1 hSw; (try dsimp only at hSw); have h0 := (hSw.cell (p := ⟨b2, off2 + Q * 7, none⟩) HCF.out.1).trans HCF.out.2.2; go_simp)
      simp only [List.getElem_toArray, List.getElem_cons_succ, List.getElem_cons_zero, Act.put, List.setIfInBounds_toArray, List.set_cons_zero, List.set_cons_succ]
      refine wpAnyH_take (i := 41) (v := .string ⟨ZK.toArray⟩) rfl (by kernel_rfl) (by kernel_rfl) (by kernel_rfl) (fun _ _ _ h => h) (Or.inl ⟨by rfl, ?_⟩) (by assumption) ?_
      · (intro w1 hSw; (try dsimp only at hSw); have h0 := reads_text (HRZ.out.below hSw); go_simp)
      simp only [List.getElem_toArray, List.getElem_cons_succ, List.getElem_cons_zero, Act.put, List.setIfInBounds_toArray, List.set_cons_zero, List.set_cons_succ]
      refine wpAnyH_take (i := 42) (v := .bool false) rfl (by kernel_rfl) (by kernel_rfl) (by kernel_rfl) (fun _ _ _ h => h) (Or.inl ⟨by rfl, ?_⟩) (by assumption) ?_
      · (intro w1 hSw; (try dsimp only at hSw); go_simp)
      simp only [List.getElem_toArray, List.getElem_cons_succ, List.getElem_cons_zero, Act.put, List.setIfInBounds_toArray, List.set_cons_zero, List.set_cons_succ]
      refine wpAnyH_take (i := 43) (v := .bool false) rfl (by kernel_rfl) (by kernel_rfl) (by kernel_rfl) (fun _ _ _ h => h) (Or.inl ⟨by rfl, ?_⟩) (by assumption) ?_
      · (intro w1 hSw; (try dsimp only at hSw); go_simp)
      simp only [List.getElem_toArray, List.getElem_cons_succ, List.getElem_cons_zero, Act.put, List.setIfInBounds_toArray, List.set_cons_zero, List.set_cons_succ]
      refine wpAnyH_take (i := 44) (v := .bool false) rfl (by kernel_rfl) (by kernel_rfl) (by kernel_rfl) (fun _ _ _ h => h) (Or.inl ⟨by rfl, ?_⟩) (by assumption) ?_
      · (intro w1 hSw; (try dsimp only at hSw); go_simp)
      simp only [List.getElem_toArray, List.getElem_cons_succ, List.getElem_cons_zero, Act.put, List.setIfInBounds_toArray, List.set_cons_zero, List.set_cons_succ]
      refine wpAnyH_take (i := 45) (v := .bool false) rfl (by kernel_rfl) (by kernel_rfl) (by kernel_rfl) (fun _ _ _ h => h) (Or.inl ⟨by rfl, ?_⟩) (by assumption) ?_
      · (intro w1 hSw; (try dsimp only at hSw); go_simp)
      simp only [List.getElem_toArray, List.getElem_cons_succ, List.getElem_cons_zero, Act.put, List.setIfInBounds_toArray, List.set_cons_zero, List.set_cons_succ]
      refine wpAnyH_done (by kernel_rfl) ?_ _
      refine NoPanic.normal ?_
      have hbe14 : Below w11.drew.heap.size w11.drew w14 := (hb12.trans (hb13.mono hb12.size)).trans (hb14.mono (Nat.le_trans hb12.size hb13.size))
      have HB14 : Hid (Below w.heap.size w w14) := HBd.out.trans (hbe14.mono HBd.out.size)
      have HA14 : Hid (Al w14 w.heap.size (.slice a9 N c9) xs) := Al.of ((HA11.out.below (Below.refl _ _).drew).below hbe14) (Nat.le_refl _)
      have HF14 : Hid (Hld w14 w.heap.size (.slice af FL cf) FL) := Hld.of (HOf.out.below hbe14) HB10.out.size HFL.out
      have HZ14 : Hid (Hld w14 w.heap.size (.slice az ZL cz) ZL) := Hld.of (HOz.out.below hbe14) HB10.out.size HZL.out
      have HKp : Hid (∀ x ∈ xs, 0 < x.e.1.length) := fun x hx => by
        have : x.e ∈ L := by rw [← HXs.out]; exact List.mem_map_of_mem hx
        exact (HOk.out.k _ this).1
      have HXl : Hid (xs.length = N) := by unfold Hid; rw [← HN.out, ← HXs.out, List.length_map]
      have HFZ : Hid (0 < ZL → 0 < FL) := fun h => by
        have h0 : 0 < L.length := by
          rcases Nat.eq_zero_or_pos L.length with q | q
          · exfalso
            rw [List.length_eq_zero_iff] at q
            rw [← HZL.out, q] at h
            exact absurd h (by decide)
          · exact q
        rw [← HFL.out, keyF_of h0]
        exact (HOk.out.k _ (List.getElem_mem h0)).1
      have hZb : ZL ≤ 256 := by
        rcases Nat.eq_zero_or_pos L.length with q | q
        · rw [List.length_eq_zero_iff] at q; rw [← HZL.out, q]; decide
        · rw [← HZL.out, keyZ_of (by omega)]; exact (HOk.out.k _ (List.getElem_mem _)).2
      clear hb12 hb13 hb14 hbe14 hHeld HB12 HTY HOf HOz HA11 HBd HB11 HB10 HYs HYl HSL HXs
      clear HRF HRZ HRf HRz HCF hQs hQw hQN2 hQN3
      go_wp2_with fail
      go_loopw [18] (fun i wr => ∃ k : Nat, i = .int .i64 (k : Int) ∧ k ≤ N ∧ Hid (Al wr w.heap.size (.slice a9 N c9) xs) ∧ Hid (Hld wr w.heap.size (.slice af FL cf) FL) ∧ Hid (Hld wr w.heap.size (.slice az ZL cz) ZL) ∧ Hid (Below w.heap.size w wr)) (fun i _ => N - (intOf i).toNat)
      case atStart => exact ⟨0, rfl, by omega, HA14, HF14, HZ14, HB14⟩
      case round =>
        obtain ⟨k, rfl, hk, HA, HF, HZ, HB⟩ := hrel
        by_cases hlt : k < N
        · have hlt' : (k : Int) < (N : Int) := by omega
          have hkx : k < xs.length := by rw [HXl.out]; exact hlt
          obtain ⟨g, rfl, hc0, hld⟩ := HA.out.at hkx rfl
          have hkp := HKp.out _ (List.getElem_mem hkx)
          obtain ⟨kg, kcp, x0, hkv, hkg, hkg2, hx0, hcx, hfx, cs, hcs⟩ := hld.cell hkp
          obtain ⟨KL, HKL⟩ := hid_ex (xs[k]'hkx).e.1.length
          rw [← HKL.out] at hkv hkp
          rw [hkv] at hc0
          obtain ⟨y, hy⟩ := xor_255 x0 hx0
          have hzr : Below wr.heap.size wr wr.drew := (Below.refl _ _).drew
          have HAd := HA.out.below hzr
          have HFd := HF.out.below hzr
          have HZd := HZ.out.below hzr
          have HAn : Hid (Al (wr.drew.setCell ⟨kg, 0, none⟩ (.int .u8 (y.toNat : Int))) w.heap.size (.slice (some ⟨g, 0, none⟩) N c9) xs) := HAd.turn y hcs
          have HFn : Hid (Hld (wr.drew.setCell ⟨kg, 0, none⟩ (.int .u8 (y.toNat : Int))) w.heap.size (.slice af FL cf) FL) := HFd.turn y
          have HZn : Hid (Hld (wr.drew.setCell ⟨kg, 0, none⟩ (.int .u8 (y.toNat : Int))) w.heap.size (.slice az ZL cz) ZL) := HZd.turn y
          have HBn : Hid (Below w.heap.size w (wr.drew.setCell ⟨kg, 0, none⟩ (.int .u8 (y.toNat : Int)))) := HB.out.drew.trans ((Below.refl _ _).setCell hkg _)
          have hc0' : (wr.drew.setCell ⟨kg, 0, none⟩ (.int .u8 (y.toNat : Int))).cell? ⟨g, k * 7, none⟩ = some (.slice (some ⟨kg, 0, none⟩) KL kcp) := by
            obtain ⟨g9, he9, hc9, _⟩ := HAn.out.at hkx rfl
            simp only [Option.some.injEq, Addr.mk.injEq, and_true] at he9
            subst he9
            rw [← hkv]; exact hc9
          have HC0 : Hid (wr.drew.cell? ⟨g, k * 7, none⟩ = some (.slice (some ⟨kg, 0, none⟩) KL kcp) ∧ wr.drew.cell? ⟨kg, 0, none⟩ = some (.int .u8 (x0 : Int)) ∧ wr.drew.frozen? ⟨kg, 0, none⟩ = false) := ⟨hc0, hcx, hfx⟩
          have HC0' : Hid _ := hc0'
          have hkp' : (KL : Int) > 0 := by omega
          have hkp2 : ¬ KL = 0 := by omega
          have hfd : wr.drew.frozen? ⟨kg, 0, none⟩ = false := hfx
          have hcd : wr.drew.cell? ⟨kg, 0, none⟩ = some (.int .u8 (x0 : Int)) := hcx
          clear hld hcs hkv hkg hkg2 hx0 HAd HFd HZd hc0 hcx hfx hc0'
          go_wp2_with fail
          refine wp_region_noPanic ?_
          refine wp_region_S 14 (fun w' => w'.cell? ⟨g, k * 7, none⟩ = some (.slice (some ⟨kg, 0, none⟩) KL kcp)) (fun w' => w'.cell? ⟨kg, 0, none⟩ = some (.int .u8 (x0 : Int))) (by kernel_rfl) ?_ ?_ (fun hHeld => ?_)
          · exact HC0.out.1
          · exact HC0.out.2.1
          refine wpAnyS_take (i := 0) (v := .slice (some ⟨g, 0, none⟩) N c9) _ rfl (by kernel_rfl) (by kernel_rfl) (by kernel_rfl) (by kernel_rfl) (by kernel_rfl) rfl (fun _ _ _ h => h) (Or.inl ⟨by rfl, ?_⟩) hHeld (fun hHeld => ?_)
          · (intro w1 hSw; have hSw := hSw.1; (try dsimp only at hSw); go_simp)
          simp only [List.getElem_toArray, List.getElem_cons_zero, Act.put, List.setIfInBounds_toArray, List.set_cons_zero, List.set_cons_succ]
          refine wpAnyS_take (i := 1) (v := .int .i64 (k : Int)) _ rfl (by kernel_rfl) (by kernel_rfl) (by kernel_rfl) (by kernel_rfl) (by kernel_rfl) rfl (fun _ _ _ h => h) (Or.inl ⟨by rfl, ?_⟩) hHeld (fun hHeld => ?_)
          · (intro w1 hSw; have hSw := hSw.1; (try dsimp only at hSw); go_simp)
          simp only [List.getElem_toArray, List.getElem_cons_succ, List.getElem_cons_zero, Act.put, List.setIfInBounds_toArray, List.set_cons_zero, List.set_cons_succ]
          refine wpAnyS_take (i := 2) (v := .pointer (some ⟨g, k * 7, none⟩)) _ rfl (by kernel_rfl) (by kernel_rfl) (by kernel_rfl) (by kernel_rfl) (by kernel_rfl) rfl (fun _ _ _ h => h) (Or.inl ⟨by rfl, ?_⟩) hHeld (fun hHeld => ?_)
          · (intro w1 hSw; have hSw := hSw.1; (try dsimp only at hSw); go_simp)
          simp only [List.getElem_toArray, List.getElem_cons_succ, List.getElem_cons_zero, Act.put, List.setIfInBounds_toArray, List.set_cons_zero, List.set_cons_succ]
          refine wpAnyS_take (i := 3) (v := .pointer (some ⟨g, k * 7, none⟩)) _ rfl (by kernel_rfl) (by kernel_rfl) (by kernel_rfl) (by kernel_rfl) (by kernel_rfl) rfl (fun _ _ _ h => h) (Or.inl ⟨by rfl, ?_⟩) hHeld (fun hHeld => ?_)
          · (intro w1 hSw; have hSw := hSw.1; (try dsimp only at hSw); go_simp)
          simp only [List.getElem_toArray, List.getElem_cons_succ, List.getElem_cons_zero, Act.put, List.setIfInBounds_toArray, List.set_cons_zero, List.set_cons_succ]
          refine wpAnyS_take (i := 4) (v := .slice (some ⟨kg, 0, none⟩) KL kcp) _ rfl (by kernel_rfl) (by kernel_rfl) (by kernel_rfl) (by kernel_rfl) (by kernel_rfl) rfl (fun _ _ _ h => h) (Or.inl ⟨by rfl, ?_⟩) hHeld (fun hHeld => ?_)
          · (intro w1 hSw; have hSw := hSw.1; (try dsimp only at hSw); go_simp)
          simp only [List.getElem_toArray, List.getElem_cons_succ, List.getElem_cons_zero, Act.put, List.setIfInBounds_toArray, List.set_cons_zero, List.set_cons_succ]
          refine wpAnyS_take (i := 5) (v := .slice (some ⟨g, 0, none⟩) N c9) _ rfl (by kernel_rfl) (by kernel_rfl) (by kernel_rfl) (by kernel_rfl) (by kernel_rfl) rfl (fun _ _ _ h => h) (Or.inl ⟨by rfl, ?_⟩) hHeld (fun hHeld => ?_)
          · (intro w1 hSw; have hSw := hSw.1; (try dsimp only at hSw); go_simp)
          simp only [List.getElem_toArray, List.getElem_cons_succ, List.getElem_cons_zero, Act.put, List.setIfInBounds_toArray, List.set_cons_zero, List.set_cons_succ]
          refine wpAnyS_take (i := 6) (v := .int .i64 (k : Int)) _ rfl (by kernel_rfl) (by kernel_rfl) (by kernel_rfl) (by kernel_rfl) (by kernel_rfl) rfl (fun _ _ _ h => h) (Or.inl ⟨by rfl, ?_⟩) hHeld (fun hHeld => ?_)
          · (intro w1 hSw; have hSw := hSw.1; (try dsimp only at hSw); go_simp)
          simp only [List.getElem_toArray, List.getElem_cons_succ, List.getElem_cons_zero, Act.put, List.setIfInBounds_toArray, List.set_cons_zero, List.set_cons_succ]
          refine wpAnyS_take (i := 7) (v := .pointer (some ⟨g, k * 7, none⟩)) _ rfl (by kernel_rfl) (by kernel_rfl) (by kernel_rfl) (by kernel_rfl) (by kernel_rfl) rfl (fun _ _ _ h => h) (Or.inl ⟨by rfl, ?_⟩) hHeld (fun hHeld => ?_)
          · (intro w1 hSw; have hSw := hSw.1; (try dsimp only at hSw); go_simp)
          simp only [List.getElem_toArray, List.getElem_cons_succ, List.getElem_cons_zero, Act.put, List.setIfInBounds_toArray, List.set_cons_zero, List.set_cons_succ]
          refine wpAnyS_take (i := 8) (v := .pointer (some ⟨g, k * 7, none⟩)) _ rfl (by kernel_rfl) (by kernel_rfl) (by kernel_rfl) (by kernel_rfl) (by kernel_rfl) rfl (fun _ _ _ h => h) (Or.inl ⟨by rfl, ?_⟩) hHeld (fun hHeld => ?_)
          · (intro w1 hSw; have hSw := hSw.1; (try dsimp only at hSw); go_simp)
          simp only [List.getElem_toArray, List.getElem_cons_succ, List.getElem_cons_zero, Act.put, List.setIfInBounds_toArray, List.set_cons_zero, List.set_cons_succ]
          refine wpAnyS_take (i := 9) (v := .slice (some ⟨kg, 0, none⟩) KL kcp) _ rfl (by kernel_rfl) (by kernel_rfl) (by kernel_rfl) (by kernel_rfl) (by kernel_rfl) rfl (fun _ _ _ h => h) (Or.inl ⟨by rfl, ?_⟩) hHeld (fun hHeld => ?_)
          · (intro w1 hSw; have hSw := hSw.1; (try dsimp only at hSw); go_simp)
          simp only [List.getElem_toArray, List.getElem_cons_succ, List.getElem_cons_zero, Act.put, List.setIfInBounds_toArray, List.set_cons_zero, List.set_cons_succ]
          refine wpAnyS_take (i := 10) (v := .pointer (some ⟨kg, 0, none⟩)) _ rfl (by kernel_rfl) (by kernel_rfl) (by kernel_rfl) (by kernel_rfl) (by kernel_rfl) rfl (fun _ _ _ h => h) (Or.inl ⟨by rfl, ?_⟩) hHeld (fun hHeld => ?_)
          · (intro w1 hSw; have hSw := hSw.1; (try dsimp only at hSw); go_simp)
          simp only [List.getElem_toArray, List.getElem_cons_succ, List.getElem_cons_zero, Act.put, List.setIfInBounds_toArray, List.set_cons_zero, List.set_cons_succ]
          refine wpAnyS_take (i := 11) (v := .int .u8 (x0 : Int)) true rfl (by kernel_rfl) (by kernel_rfl) (by kernel_rfl) (by kernel_rfl) (by kernel_rfl) (by kernel_rfl) (fun _ _ _ h => h) (Or.inl ⟨by rfl, ?_⟩) hHeld (fun hHeld => ?_)
          · (intro w1 hSw; have hSw2 := hSw.2 rfl; have hSw := hSw.1; (try dsimp only at hSw hSw2); go_simp)
          simp only [List.getElem_toArray, List.getElem_cons_succ, List.getElem_cons_zero, Act.put, List.setIfInBounds_toArray, List.set_cons_zero, List.set_cons_succ]
          refine wpAnyS_take (i := 12) (v := .int .u8 (y.toNat : Int)) _ rfl (by kernel_rfl) (by kernel_rfl) (by kernel_rfl) (by kernel_rfl) (by kernel_rfl) rfl (fun _ _ _ h => h) (Or.inl ⟨by rfl, ?_⟩) hHeld (fun hHeld => ?_)
          · (intro w1 hSw; have hSw := hSw.1; (try dsimp only at hSw); go_simp)
          simp only [List.getElem_toArray, List.getElem_cons_succ, List.getElem_cons_zero, Act.put, List.setIfInBounds_toArray, List.set_cons_zero, List.set_cons_succ]
          refine wpAnyS_take (i := 13) (v := .pointer (some ⟨kg, 0, none⟩)) _ rfl (by kernel_rfl) (by kernel_rfl) (by kernel_rfl) (by kernel_rfl) (by kernel_rfl) rfl (fun _ _ _ h => h) (Or.inl ⟨by rfl, ?_⟩) hHeld (fun hHeld => ?_)
          · (intro w1 hSw; have hSw := hSw.1; (try dsimp only at hSw); go_simp)
          simp only [List.getElem_toArray, List.getElem_cons_succ, List.getElem_cons_zero, Act.put, List.setIfInBounds_toArray, List.set_cons_zero, List.set_cons_succ]
          refine wpAnyS_ready (i := 14) (by kernel_rfl) rfl (fun K hK => ?_)
          go_simp
          refine hK.out _ _ ⟨?_, fun hno => absurd hno (by decide)⟩ (fun hHeld => ?_)
          · exact HC0'.out
          clear hK K
          refine wpAnyS_done (by kernel_rfl) ?_ _
          refine NoPanic.normal ?_
          clear hfd hcd hHeld
          go_wp2_with fail
          go_roundw
          case rel => exact ⟨k + 1, by go_num, by omega, HAn, HFn, HZn, HBn⟩
          case measure => simp [intOf]; omega
        · have hlt' : ¬ (k : Int) < (N : Int) := by omega
          clear HA
          go_wp2_with fail
          go_loopw [19] (fun i wr => ∃ k : Nat, i = .int .i64 (k : Int) ∧ k ≤ ZL ∧ Hid (Hld wr w.heap.size (.slice af FL cf) FL) ∧ Hid (Hld wr w.heap.size (.slice az ZL cz) ZL) ∧ Hid (Below w.heap.size w wr)) (fun i _ => ZL - (intOf i).toNat)
          case atStart => exact ⟨0, rfl, by omega, HF, HZ, HB⟩
          case round =>
            rename World => wz
            obtain ⟨j, rfl, hj, HFr, HZr, HBr⟩ := hrel
            by_cases hjl : j < ZL
            · have hjl' : (j : Int) < (ZL : Int) := by omega
              obtain ⟨zg, zcp, xz, hzv, hzg, hzg2, _, hcz, hfz, _⟩ := HZr.out.cell hjl
              obtain ⟨fg, fcp, xf, hfv, hfg, hfg2, _, hcf, hff, _⟩ := (HFr.out.turn (g := zg) (i := j) 7).cell (HFZ.out (by omega))
              simp only [Value.slice.injEq] at hzv hfv
              obtain ⟨rfl, -, rfl⟩ := hzv
              obtain ⟨rfl, -, rfl⟩ := hfv
              have e77 : (((7 : UInt8).toNat : Nat) : Int) = 7 := rfl
              have hF0 : ¬ FL = 0 := by have := HFZ.out (by omega); omega
              have hF1 : 0 < FL := by omega
              have HFn : Hid (Hld ((wz.setCell ⟨zg, j, none⟩ (.int .u8 7)).setCell ⟨fg, 0, none⟩ (.int .u8 7)) w.heap.size (.slice (some ⟨fg, 0, none⟩) FL cf) FL) := by have := (HFr.out.turn (g := zg) (i := j) 7).turn (g := fg) (i := 0) 7; rw [e77] at this; exact this
              have HZn : Hid (Hld ((wz.setCell ⟨zg, j, none⟩ (.int .u8 7)).setCell ⟨fg, 0, none⟩ (.int .u8 7)) w.heap.size (.slice (some ⟨zg, 0, none⟩) ZL cz) ZL) := by have := (HZr.out.turn (g := zg) (i := j) 7).turn (g := fg) (i := 0) 7; rw [e77] at this; exact this
              have HBn : Hid (Below w.heap.size w ((wz.setCell ⟨zg, j, none⟩ (.int .u8 7)).setCell ⟨fg, 0, none⟩ (.int .u8 7))) := (HBr.out.trans ((Below.refl _ _).setCell hzg _)).trans ((Below.refl _ _).setCell hfg _)
              rw [e77] at hcf hff
              clear hzg hzg2 hfg hfg2 e77
              go_wp2_with fail
              go_roundw
              case rel => exact ⟨j + 1, by go_num, by omega, HFn, HZn, HBn⟩
              case measure => simp [intOf]; omega
            · have hjl' : ¬ (j : Int) < (ZL : Int) := by omega
              go_wp2_with fail
              go_ret
              exact ⟨rfl, HBr.out⟩
  · obtain rfl : r = [] := by have := HL1.out; simp at this; exact this
    have hNp : 0 < N := by have h1 := HMm.out x (by simp); rw [← HN.out]; exact List.length_pos_of_mem h1
    obtain ⟨b1, off1, kv1, he1, hbw1, hcs1, hrk1, _⟩ := HT1.out.at (j := 0) (by simp) rfl
    subst he1
    obtain ⟨xk, A⟩ := x
    simp only [List.getElem_cons_zero] at hcs1 hrk1
    obtain ⟨xa, xc, rfl, hxm⟩ := hrk1.form
    unfold maxLen at hxm
    have HGo2 : Hid (gtT L key = if xk = key then some A else none) := HGt.out
    obtain ⟨XL, HXL⟩ : ∃ n, Hid (xk.length = n) := ⟨_, rfl⟩
    rw [HXL.out] at hcs1 hrk1 hxm
    have HX1 : Hid (Reads w1 (.slice xa XL xc) xk) := hrk1
    have HBb1 : Hid (b1 < w1.heap.size) := hbw1
    have c0 := hcs1 0 (by decide)
    have HC1 : Hid (∀ i (hj : i < 6), w1.cell? ⟨b1, off1 + 1 + i, none⟩ = some (([.int .u64 A.c, .bool A.o, .int .i64 (hi A.s), .int .u64 (lo A.s), .int .i64 A.mn, .int .i64 A.mx] : List Value)[i]'hj)) := fun i hj => by
      have := hcs1 (1 + i) (by omega)
      rw [show off1 + 0 * 7 + (1 + i) = off1 + 1 + i by omega] at this
      rw [this]
      match i, hj with
      | 0, _ => rfl
      | 1, _ => rfl
      | 2, _ => rfl
      | 3, _ => rfl
      | 4, _ => rfl
      | 5, _ => rfl
    simp only [e7, List.getElem_cons_zero, Nat.add_zero, Nat.zero_mul] at c0
    clear hcs1 hrk1 HGt HT1 HL1 HMm hbw1
    have hq1 : ∀ n, (convert 25 9 (.slice xa XL xc)).run Try.prog (w1.drewN n) = .ok (.string ⟨xk.toArray⟩) (w1.drewN n) := fun n => reads_text (HX1.out.below (below_drewN (Below.refl _ _) n))
    have hq2 : ∀ n, (convert 25 9 (.slice kka KK kkc)).run Try.prog (w1.drewN n) = .ok (.string ⟨key.toArray⟩) (w1.drewN n) := fun n => reads_text (HK.out.below (below_drewN HB1.out n))
    simp only [List.length_cons, List.length_nil, Nat.zero_add]
    by_cases hxe : xk = key
    · have HGo : Hid (gtT L key = some A) := by unfold Hid; rw [HGo2.out, if_pos hxe]
      have hbe : (xk == key) = true := by simp [hxe]
      clear HGo2 hxe
      go_wp2_with fail
      go_quiet (fail)
      go_wp2_with fail
      have hbq : Below w1.heap.size w1 (w1.drewN nq) := below_drewN (Below.refl _ _) _
      obtain ⟨W1, HW1⟩ := hid_ex (w1.drewN nq)
      rw [← HW1.out] at hbq ⊢
      have HBq : Hid (Below w.heap.size w W1) := HB1.out.trans (hbq.mono HB1.out.size)
      have hG := tget_any (HTb.out.below HBq.out) _ key (HK.out.below HBq.out)
      rw [HGo.out] at hG
      have HG : Hid (Calls Try.prog 41 #[.pointer (some ⟨B, 0, none⟩), .slice kka KK kkc] W1 _) := hG
      have HOq : Hid (b1 < W1.heap.size ∧ ∀ i (hj : i < 6), W1.cell? ⟨b1, off1 + 1 + i, none⟩ = some (([.int .u64 A.c, .bool A.o, .int .i64 (hi A.s), .int .u64 (lo A.s), .int .i64 A.mn, .int .i64 A.mx] : List Value)[i]'hj)) := ⟨Nat.lt_of_lt_of_le HBb1.out hbq.size, fun i hj => (hbq.cell (p := ⟨b1, off1 + 1 + i, none⟩) HBb1.out).trans (HC1.out i hj)⟩
      clear HC1 HBb1 hq1 hq2 c0 HX1 hbe hxm
      clear hG hbq HW1 HB1 HGo
      refine HG.out.mono ?_
      clear HG
      rintro e w5 ⟨rfl, hb5, _⟩
      have HB5 : Hid (Below w.heap.size w w5) := HBq.out.trans (hb5.mono HBq.out.size)
      have HO5 : Hid (b1 < w5.heap.size ∧ ∀ i (hj : i < 6), w5.cell? ⟨b1, off1 + 1 + i, none⟩ = some (([.int .u64 A.c, .bool A.o, .int .i64 (hi A.s), .int .u64 (lo A.s), .int .i64 A.mn, .int .i64 A.mx] : List Value)[i]'hj)) := ⟨Nat.lt_of_lt_of_le HOq.out.1 hb5.size, fun i hj => (hb5.cell (p := ⟨b1, off1 + 1 + i, none⟩) HOq.out.1).trans (HOq.out.2 i hj)⟩
      rw [show agV (gtA (some A)) = .agg #[.int .u64 A.c, .bool A.o, .int .i64 (hi A.s), .int .u64 (lo A.s), .int .i64 A.mn, .int .i64 A.mx] from rfl, show (some A : Option Ag).isSome = true from rfl]
      clear HOq
      have HOn : Hid (([.int .u64 A.c, .bool A.o, .int .i64 (hi A.s), .int .u64 (lo A.s), .int .i64 A.mn, .int .i64 A.mx] : List Value).toArray.all (·.oneCell') = true) := by unfold Hid; kernel_rfl
      clear hb5 HBq
      go_wp2_with (refine stop_store 41 _ _ rfl ?_)
      refine Stop.of ?_
      refine wpList_storeN rfl _ _ _ rfl w5.heap.size 0 [.int .u64 A.c, .bool A.o, .int .i64 (hi A.s), .int .u64 (lo A.s), .int .i64 A.mn, .int .i64 A.mx] rfl rfl _ _ (heap_alloc_new _ _) (by simp) (by kernel_rfl) HOn.out ?_
      intro w6 hw6
      obtain ⟨hb6, hx6, _⟩ := stW_nw hw6 (by simp)
      have HB6 : Hid (Below w.heap.size w w6.drew) := (HB5.out.trans (hb6.mono HB5.out.size)).drew
      have q0 := cell_rw hx6 0 (by simp)
      have q1 := cell_rw hx6 1 (by simp)
      have q2 := cell_rw hx6 2 (by simp)
      have q3 := cell_rw hx6 3 (by simp)
      have q4 := cell_rw hx6 4 (by simp)
      have q5 := cell_rw hx6 5 (by simp)
      simp only [List.getElem_toArray, List.getElem_cons_succ, List.getElem_cons_zero] at q0 q1 q2 q3 q4 q5
      have HCs : Hid (w5.heap.size < w6.drew.heap.size ∧ ∀ i (hj : i < 6), w6.drew.cell? ⟨w5.heap.size, i, none⟩ = some (([.int .u64 A.c, .bool A.o, .int .i64 (hi A.s), .int .u64 (lo A.s), .int .i64 A.mn, .int .i64 A.mx] : List Value)[i]'hj)) := ⟨(Array.getElem?_eq_some_iff.1 hx6).1, fun i hj => by
        match i, hj with
        | 0, _ => exact q0
        | 1, _ => exact q1
        | 2, _ => exact q2
        | 3, _ => exact q3
        | 4, _ => exact q4
        | 5, _ => exact q5⟩
      have HDs : Hid (b1 < w6.drew.heap.size ∧ ∀ i (hj : i < 6), w6.drew.cell? ⟨b1, off1 + 1 + i, none⟩ = some (([.int .u64 A.c, .bool A.o, .int .i64 (hi A.s), .int .u64 (lo A.s), .int .i64 A.mn, .int .i64 A.mx] : List Value)[i]'hj)) := ⟨Nat.lt_of_lt_of_le HO5.out.1 hb6.size, fun i hj => (hb6.cell (p := ⟨b1, off1 + 1 + i, none⟩) HO5.out.1).trans (HO5.out.2 i hj)⟩
      clear HO5
      have HT6 : Hid (Tb w6.drew lw B L) := HTb.out.below HB6.out
      have hLn := tlen_any HT6.out
      rw [HN.out] at hLn
      have HLn : Hid (Calls Try.prog 13 #[.pointer (some ⟨B, 0, none⟩)] w6.drew _) := hLn
      have hMy := tmay_any HT6.out _ key (HK.out.below HB6.out)
      obtain ⟨MY, HMY⟩ := hid_ex (tmyF L key)
      rw [← HMY.out] at hMy
      have HMy : Hid (Calls Try.prog 14 #[.pointer (some ⟨B, 0, none⟩), .slice kka KK kkc] w6.drew _) := hMy
      obtain ⟨W5, HW5⟩ := hid_ex w5.heap.size
      rw [← HW5.out] at HCs ⊢
      clear hLn hMy q0 q1 q2 q3 q4 q5 hx6 hw6 hb6 HB5 HOn HW5
      go_wp2_with fail
      refine wp_region_noPanic ?_
      refine wp_region_held_drew (S := fun w' => Below w6.drew.heap.size w6.drew w') (by kernel_rfl) ?_ (fun hHeld => ?_)
      · exact Below.refl _ _
      refine wpAnyH_take (i := 0) (v := .bool true) rfl (by kernel_rfl) (by kernel_rfl) (by kernel_rfl) (fun _ _ _ h => h) (Or.inl ⟨by rfl, ?_⟩) (by assumption) ?_
      · (intro w1 hSw; (try dsimp only at hSw); go_simp)
      simp only [List.getElem_toArray, List.getElem_cons_zero, Act.put, List.setIfInBounds_toArray, List.set_cons_zero, List.set_cons_succ]
      refine wpAnyH_take (i := 1) (v := .bool true) rfl (by kernel_rfl) (by kernel_rfl) (by kernel_rfl) (fun _ _ _ h => h) (Or.inl ⟨by rfl, ?_⟩) (by assumption) ?_
      · (intro w1 hSw; (try dsimp only at hSw); go_simp)
      simp only [List.getElem_toArray, List.getElem_cons_succ, List.getElem_cons_zero, Act.put, List.setIfInBounds_toArray, List.set_cons_zero, List.set_cons_succ]
      refine wpAnyH_take (i := 2) (v := .bool false) rfl (by kernel_rfl) (by kernel_rfl) (by kernel_rfl) (fun _ _ _ h => h) (Or.inl ⟨by rfl, ?_⟩) (by assumption) ?_
      · (intro w1 hSw; (try dsimp only at hSw); go_simp)
      simp only [List.getElem_toArray, List.getElem_cons_succ, List.getElem_cons_zero, Act.put, List.setIfInBounds_toArray, List.set_cons_zero, List.set_cons_succ]
      refine wpAnyH_take (i := 3) (v := .bool false) rfl (by kernel_rfl) (by kernel_rfl) (by kernel_rfl) (fun _ _ _ h => h) (Or.inl ⟨by rfl, ?_⟩) (by assumption) ?_
      · (intro w1 hSw; (try dsimp only at hSw); go_simp)
      simp only [List.getElem_toArray, List.getElem_cons_succ, List.getElem_cons_zero, Act.put, List.setIfInBounds_toArray, List.set_cons_zero, List.set_cons_succ]
      refine wpAnyH_take (i := 4) (v := .bool true) rfl (by kernel_rfl) (by kernel_rfl) (by kernel_rfl) (fun _ _ _ h => h) (Or.inl ⟨by rfl, ?_⟩) (by assumption) ?_
      · (intro w1 hSw; (try dsimp only at hSw); go_simp)
      simp only [List.getElem_toArray, List.getElem_cons_succ, List.getElem_cons_zero, Act.put, List.setIfInBounds_toArray, List.set_cons_zero, List.set_cons_succ]
      refine wpAnyH_take (i := 5) (v := .bool true) rfl (by kernel_rfl) (by kernel_rfl) (by kernel_rfl) (fun _ _ _ h => h) (Or.inl ⟨by rfl, ?_⟩) (by assumption) ?_
      · (intro w1 hSw; (try dsimp only at hSw); go_simp)
      simp only [List.getElem_toArray, List.getElem_cons_succ, List.getElem_cons_zero, Act.put, List.setIfInBounds_toArray, List.set_cons_zero, List.set_cons_succ]
      refine wpAnyH_take (i := 6) (v := .agg #[.int .u64 A.c, .bool A.o, .int .i64 (hi A.s), .int .u64 (lo A.s), .int .i64 A.mn, .int .i64 A.mx]) rfl (by kernel_rfl) (by kernel_rfl) (by kernel_rfl) (fun _ _ _ h => h) (Or.inl ⟨by rfl, ?_⟩) (by assumption) ?_
      · (intro w1 hSw; (try dsimp only at hSw); have h0 := (hSw.cell (p := ⟨W5, 0, none⟩) HCs.out.1).trans (HCs.out.2 0 (by decide)); have h1 := (hSw.cell (p := ⟨W5, 1, none⟩) HCs.out.1).trans (HCs.out.2 1 (by decide)); have h2 := (hSw.cell (p := ⟨W5, 2, none⟩) HCs.out.1).trans (HCs.out.2 2 (by decide)); have h3 := (hSw.cell (p := ⟨W5, 3, none⟩) HCs.out.1).trans (HCs.out.2 3 (by decide)); have h4 := (hSw.cell (p := ⟨W5, 4, none⟩) HCs.out.1).trans (HCs.out.2 4 (by decide)); have h5 := (hSw.cell (p := ⟨W5, 5, none⟩) HCs.out.1).trans (HCs.out.2 5 (by decide)); simp only [List.getElem_cons_succ, List.getElem_cons_zero] at h0 h1 h2 h3 h4 h5; go_simp)
      simp only [List.getElem_toArray, List.getElem_cons_succ, List.getElem_cons_zero, Act.put, List.setIfInBounds_toArray, List.set_cons_zero, List.set_cons_succ]
      refine wpAnyH_take (i := 7) (v := .slice (some ⟨b1, off1, none⟩) 1 c1) rfl (by kernel_rfl) (by kernel_rfl) (by kernel_rfl) (fun _ _ _ h => h) (Or.inl ⟨by rfl, ?_⟩) (by assumption) ?_
      · (intro w1 hSw; (try dsimp only at hSw); go_simp)
      simp only [List.getElem_toArray, List.getElem_cons_succ, List.getElem_cons_zero, Act.put, List.setIfInBounds_toArray, List.set_cons_zero, List.set_cons_succ]
      refine wpAnyH_take (i := 8) (v := .pointer (some ⟨b1, off1, none⟩)) rfl (by kernel_rfl) (by kernel_rfl) (by kernel_rfl) (fun _ _ _ h => h) (Or.inl ⟨by rfl, ?_⟩) (by assumption) ?_
      · (intro w1 hSw; (try dsimp only at hSw); go_simp)
      simp only [List.getElem_toArray, List.getElem_cons_succ, List.getElem_cons_zero, Act.put, List.setIfInBounds_toArray, List.set_cons_zero, List.set_cons_succ]
      refine wpAnyH_take (i := 9) (v := .pointer (some ⟨b1, off1 + 1, none⟩)) rfl (by kernel_rfl) (by kernel_rfl) (by kernel_rfl) (fun _ _ _ h => h) (Or.inl ⟨by rfl, ?_⟩) (by assumption) ?_
      · (intro w1 hSw; (try dsimp only at hSw); go_simp)
      simp only [List.getElem_toArray, List.getElem_cons_succ, List.getElem_cons_zero, Act.put, List.setIfInBounds_toArray, List.set_cons_zero, List.set_cons_succ]
      refine wpAnyH_take (i := 10) (v := .agg #[.int .u64 A.c, .bool A.o, .int .i64 (hi A.s), .int .u64 (lo A.s), .int .i64 A.mn, .int .i64 A.mx]) rfl (by kernel_rfl) (by kernel_rfl) (by kernel_rfl) (fun _ _ _ h => h) (Or.inl ⟨by rfl, ?_⟩) (by assumption) ?_
      · (intro w1 hSw; (try dsimp only at hSw); have h0 := (hSw.cell (p := ⟨b1, off1 + 1 + 0, none⟩) HDs.out.1).trans (HDs.out.2 0 (by decide)); have h1 := (hSw.cell (p := ⟨b1, off1 + 1 + 1, none⟩) HDs.out.1).trans (HDs.out.2 1 (by decide)); have h2 := (hSw.cell (p := ⟨b1, off1 + 1 + 2, none⟩) HDs.out.1).trans (HDs.out.2 2 (by decide)); have h3 := (hSw.cell (p := ⟨b1, off1 + 1 + 3, none⟩) HDs.out.1).trans (HDs.out.2 3 (by decide)); have h4 := (hSw.cell (p := ⟨b1, off1 + 1 + 4, none⟩) HDs.out.1).trans (HDs.out.2 4 (by decide)); have h5 := (hSw.cell (p := ⟨b1, off1 + 1 + 5, none⟩) HDs.out.1).trans (HDs.out.2 5 (by decide)); simp only [List.getElem_cons_succ, List.getElem_cons_zero, Nat.add_zero] at h0 h1 h2 h3 h4 h5; go_simp)
      simp only [List.getElem_toArray, List.getElem_cons_succ, List.getElem_cons_zero, Act.put, List.setIfInBounds_toArray, List.set_cons_zero, List.set_cons_succ]
      refine wpAnyH_take (i := 11) (v := .bool false) rfl (by kernel_rfl) (by kernel_rfl) (by kernel_rfl) (fun _ _ _ h => h) (Or.inl ⟨by rfl, ?_⟩) (by assumption) ?_
      · (intro w1 hSw; (try dsimp only at hSw); go_simp)
      simp only [List.getElem_toArray, List.getElem_cons_succ, List.getElem_cons_zero, Act.put, List.setIfInBounds_toArray, List.set_cons_zero, List.set_cons_succ]
      refine wpAnyH_take (i := 12) (v := .bool false) rfl (by kernel_rfl) (by kernel_rfl) (by kernel_rfl) (fun _ _ _ h => h) (Or.inl ⟨by rfl, ?_⟩) (by assumption) ?_
      · (intro w1 hSw; (try dsimp only at hSw); go_simp)
      simp only [List.getElem_toArray, List.getElem_cons_succ, List.getElem_cons_zero, Act.put, List.setIfInBounds_toArray, List.set_cons_zero, List.set_cons_succ]
      refine wpAnyH_take (i := 13) (v := .bool false) rfl (by kernel_rfl) (by kernel_rfl) (by kernel_rfl) (fun _ _ _ h => h) (Or.inl ⟨by rfl, ?_⟩) (by assumption) ?_
      · (intro w1 hSw; (try dsimp only at hSw); go_simp)
      simp only [List.getElem_toArray, List.getElem_cons_succ, List.getElem_cons_zero, Act.put, List.setIfInBounds_toArray, List.set_cons_zero, List.set_cons_succ]
      refine wpAnyH_take (i := 14) (v := .bool false) rfl (by kernel_rfl) (by kernel_rfl) (by kernel_rfl) (fun _ _ _ h => h) (Or.inl ⟨by rfl, ?_⟩) (by assumption) ?_
      · (intro w1 hSw; (try dsimp only at hSw); go_simp)
      simp only [List.getElem_toArray, List.getElem_cons_succ, List.getElem_cons_zero, Act.put, List.setIfInBounds_toArray, List.set_cons_zero, List.set_cons_succ]
      refine wpAnyH_take (i := 15) (v := .bool true) rfl (by kernel_rfl) (by kernel_rfl) (by kernel_rfl) (fun _ _ _ h => h) (Or.inl ⟨by rfl, ?_⟩) (by assumption) ?_
      · (intro w1 hSw; (try dsimp only at hSw); go_simp)
      simp only [List.getElem_toArray, List.getElem_cons_succ, List.getElem_cons_zero, Act.put, List.setIfInBounds_toArray, List.set_cons_zero, List.set_cons_succ]
      refine wpAnyH_take (i := 16) (v := .bool false) rfl (by kernel_rfl) (by kernel_rfl) (by kernel_rfl) (fun _ _ _ h => h) (Or.inl ⟨by rfl, ?_⟩) (by assumption) ?_
      · (intro w1 hSw; (try dsimp only at hSw); go_simp)
      simp only [List.getElem_toArray, List.getElem_cons_succ, List.getElem_cons_zero, Act.put, List.setIfInBounds_toArray, List.set_cons_zero, List.set_cons_succ]
      refine wpAnyH_take (i := 17) (v := .bool false) rfl (by kernel_rfl) (by kernel_rfl) (by kernel_rfl) (fun _ _ _ h => h) (Or.inl ⟨by rfl, ?_⟩) (by assumption) ?_
      · (intro w1 hSw; (try dsimp only at hSw); go_simp)
      simp only [List.getElem_toArray, List.getElem_cons_succ, List.getElem_cons_zero, Act.put, List.setIfInBounds_toArray, List.set_cons_zero, List.set_cons_succ]
      refine wpAnyH_take (i := 18) (v := undef) rfl (by kernel_rfl) (by kernel_rfl) (by kernel_rfl) (fun _ _ _ h => h) (Or.inr ⟨by rfl, rfl⟩) (by assumption) ?_
      simp only [List.getElem_toArray, List.getElem_cons_succ, List.getElem_cons_zero, Act.put, List.setIfInBounds_toArray, List.set_cons_zero, List.set_cons_succ]
      refine wpAnyH_take (i := 19) (v := undef) rfl (by kernel_rfl) (by kernel_rfl) (by kernel_rfl) (fun _ _ _ h => h) (Or.inr ⟨by rfl, rfl⟩) (by assumption) ?_
      simp only [List.getElem_toArray, List.getElem_cons_succ, List.getElem_cons_zero, Act.put, List.setIfInBounds_toArray, List.set_cons_zero, List.set_cons_succ]
      refine wpAnyH_take (i := 20) (v := undef) rfl (by kernel_rfl) (by kernel_rfl) (by kernel_rfl) (fun _ _ _ h => h) (Or.inr ⟨by rfl, rfl⟩) (by assumption) ?_
      simp only [List.getElem_toArray, List.getElem_cons_succ, List.getElem_cons_zero, Act.put, List.setIfInBounds_toArray, List.set_cons_zero, List.set_cons_succ]
      refine wpAnyH_take (i := 21) (v := .bool false) rfl (by kernel_rfl) (by kernel_rfl) (by kernel_rfl) (fun _ _ _ h => h) (Or.inl ⟨by rfl, ?_⟩) (by assumption) ?_
      · (intro w1 hSw; (try dsimp only at hSw); go_simp)
      simp only [List.getElem_toArray, List.getElem_cons_succ, List.getElem_cons_zero, Act.put, List.setIfInBounds_toArray, List.set_cons_zero, List.set_cons_succ]
      refine wpAnyH_take (i := 22) (v := .bool false) rfl (by kernel_rfl) (by kernel_rfl) (by kernel_rfl) (fun _ _ _ h => h) (Or.inl ⟨by rfl, ?_⟩) (by assumption) ?_
      · (intro w1 hSw; (try dsimp only at hSw); go_simp)
      simp only [List.getElem_toArray, List.getElem_cons_succ, List.getElem_cons_zero, Act.put, List.setIfInBounds_toArray, List.set_cons_zero, List.set_cons_succ]
      refine wpAnyH_take (i := 23) (v := .bool false) rfl (by kernel_rfl) (by kernel_rfl) (by kernel_rfl) (fun _ _ _ h => h) (Or.inl ⟨by rfl, ?_⟩) (by assumption) ?_
      · (intro w1 hSw; (try dsimp only at hSw); go_simp)
      simp only [List.getElem_toArray, List.getElem_cons_succ, List.getElem_cons_zero, Act.put, List.setIfInBounds_toArray, List.set_cons_zero, List.set_cons_succ]
      refine wpAnyH_take (i := 24) (v := .pointer (some ⟨B, 0, none⟩)) rfl (by kernel_rfl) (by kernel_rfl) (by kernel_rfl) (fun _ _ _ h => h) (Or.inl ⟨by rfl, ?_⟩) (by assumption) ?_
      · (intro w1 hSw; (try dsimp only at hSw); go_simp)
      simp only [List.getElem_toArray, List.getElem_cons_succ, List.getElem_cons_zero, Act.put, List.setIfInBounds_toArray, List.set_cons_zero, List.set_cons_succ]
      refine wpAnyH_take (i := 26) (v := .slice a N cap) rfl (by kernel_rfl) (by kernel_rfl) (by kernel_rfl) (fun _ _ _ h => h) (Or.inl ⟨by rfl, ?_⟩) (by assumption) ?_
      · (intro w1 hSw; (try dsimp only at hSw); go_simp)
      simp only [List.getElem_toArray, List.getElem_cons_succ, List.getElem_cons_zero, Act.put, List.setIfInBounds_toArray, List.set_cons_zero, List.set_cons_succ]
      refine wpAnyH_take (i := 27) (v := .int .i64 (N : Int)) rfl (by kernel_rfl) (by kernel_rfl) (by kernel_rfl) (fun _ _ _ h => h) (Or.inl ⟨by rfl, ?_⟩) (by assumption) ?_
      · (intro w1 hSw; (try dsimp only at hSw); go_simp)
      simp only [List.getElem_toArray, List.getElem_cons_succ, List.getElem_cons_zero, Act.put, List.setIfInBounds_toArray, List.set_cons_zero, List.set_cons_succ]
      refine wpAnyH_ready (rs := [25]) (by kernel_rfl) (by simp) ?_
      refine AllReadyH.cons (o := _) rfl (fun K hK => ?_) AllReadyH.nil
      go_simp
      refine HLn.out.mono ?_
      clear HLn
      rintro e w6' ⟨rfl, rfl⟩
      go_simp
      refine hK.out _ _ ?_ (fun hHeld => ?_)
      · exact Below.refl _ _
      clear hK K
      refine wpAnyH_take (i := 28) (v := .bool false) rfl (by kernel_rfl) (by kernel_rfl) (by kernel_rfl) (fun _ _ _ h => h) (Or.inl ⟨by rfl, ?_⟩) (by assumption) ?_
      · (intro w1 hSw; (try dsimp only at hSw); go_simp)
      simp only [List.getElem_toArray, List.getElem_cons_succ, List.getElem_cons_zero, Act.put, List.setIfInBounds_toArray, List.set_cons_zero, List.set_cons_succ]
      refine wpAnyH_take (i := 29) (v := .bool false) rfl (by kernel_rfl) (by kernel_rfl) (by kernel_rfl) (fun _ _ _ h => h) (Or.inl ⟨by rfl, ?_⟩) (by assumption) ?_
      · (intro w1 hSw; (try dsimp only at hSw); go_simp)
      simp only [List.getElem_toArray, List.getElem_cons_succ, List.getElem_cons_zero, Act.put, List.setIfInBounds_toArray, List.set_cons_zero, List.set_cons_succ]
      refine wpAnyH_take (i := 30) (v := .bool false) rfl (by kernel_rfl) (by kernel_rfl) (by kernel_rfl) (fun _ _ _ h => h) (Or.inl ⟨by rfl, ?_⟩) (by assumption) ?_
      · (intro w1 hSw; (try dsimp only at hSw); go_simp)
      simp only [List.getElem_toArray, List.getElem_cons_succ, List.getElem_cons_zero, Act.put, List.setIfInBounds_toArray, List.set_cons_zero, List.set_cons_succ]
      refine wpAnyH_take (i := 31) (v := .pointer (some ⟨B, 0, none⟩)) rfl (by kernel_rfl) (by kernel_rfl) (by kernel_rfl) (fun _ _ _ h => h) (Or.inl ⟨by rfl, ?_⟩) (by assumption) ?_
      · (intro w1 hSw; (try dsimp only at hSw); go_simp)
      simp only [List.getElem_toArray, List.getElem_cons_succ, List.getElem_cons_zero, Act.put, List.setIfInBounds_toArray, List.set_cons_zero, List.set_cons_succ]
      refine wpAnyH_take (i := 32) (v := .slice kka KK kkc) rfl (by kernel_rfl) (by kernel_rfl) (by kernel_rfl) (fun _ _ _ h => h) (Or.inl ⟨by rfl, ?_⟩) (by assumption) ?_
      · (intro w1 hSw; (try dsimp only at hSw); go_simp)
      simp only [List.getElem_toArray, List.getElem_cons_succ, List.getElem_cons_zero, Act.put, List.setIfInBounds_toArray, List.set_cons_zero, List.set_cons_succ]
      refine wpAnyH_take (i := 34) (v := .slice a N cap) rfl (by kernel_rfl) (by kernel_rfl) (by kernel_rfl) (fun _ _ _ h => h) (Or.inl ⟨by rfl, ?_⟩) (by assumption) ?_
      · (intro w1 hSw; (try dsimp only at hSw); go_simp)
      simp only [List.getElem_toArray, List.getElem_cons_succ, List.getElem_cons_zero, Act.put, List.setIfInBounds_toArray, List.set_cons_zero, List.set_cons_succ]
      refine wpAnyH_take (i := 35) (v := .slice kka KK kkc) rfl (by kernel_rfl) (by kernel_rfl) (by kernel_rfl) (fun _ _ _ h => h) (Or.inl ⟨by rfl, ?_⟩) (by assumption) ?_
      · (intro w1 hSw; (try dsimp only at hSw); go_simp)
      simp only [List.getElem_toArray, List.getElem_cons_succ, List.getElem_cons_zero, Act.put, List.setIfInBounds_toArray, List.set_cons_zero, List.set_cons_succ]
      refine wpAnyH_ready (rs := [33]) (by kernel_rfl) (by simp) ?_
      refine AllReadyH.cons (o := _) rfl (fun K hK => ?_) AllReadyH.nil
      go_simp
      refine HMy.out.mono ?_
      clear HMy
      rintro e w7 ⟨rfl, hb7⟩
      go_simp
      refine hK.out _ _ ?_ (fun hHeld => ?_)
      · exact hb7
      clear hK K
      have hrm := refMay10_any _ _ L key w7 (HR.out.below (HB6.out.trans (hb7.mono HB6.out.size))) (HK.out.below (HB6.out.trans (hb7.mono HB6.out.size))) (by have := HKB.out; omega) HOk.out
      rw [← HMY.out] at hrm
      have HRm : Hid (Calls Try.prog 42 #[.slice a N cap, .slice kka KK kkc] w7 _) := hrm
      clear hrm
      refine wpAnyH_ready (rs := [36]) (by kernel_rfl) (by simp) ?_
      refine AllReadyH.cons (o := _) rfl (fun K hK => ?_) AllReadyH.nil
      go_simp
      refine HRm.out.mono ?_
      clear HRm
      rintro e w8 ⟨rfl, hb8⟩
      go_simp
      refine hK.out _ _ ?_ (fun hHeld => ?_)
      · exact hb7.trans (hb8.mono hb7.size)
      clear hK K
      refine wpAnyH_take (i := 37) (v := .bool false) rfl (by kernel_rfl) (by kernel_rfl) (by kernel_rfl) (fun _ _ _ h => h) (Or.inl ⟨by rfl, ?_⟩) (by assumption) ?_
      · (intro w1 hSw; (try dsimp only at hSw); go_simp)
      simp only [List.getElem_toArray, List.getElem_cons_succ, List.getElem_cons_zero, Act.put, List.setIfInBounds_toArray, List.set_cons_zero, List.set_cons_succ]
      refine wpAnyH_take (i := 38) (v := .bool false) rfl (by kernel_rfl) (by kernel_rfl) (by kernel_rfl) (fun _ _ _ h => h) (Or.inl ⟨by rfl, ?_⟩) (by assumption) ?_
      · (intro w1 hSw; (try dsimp only at hSw); go_simp)
      simp only [List.getElem_toArray, List.getElem_cons_succ, List.getElem_cons_zero, Act.put, List.setIfInBounds_toArray, List.set_cons_zero, List.set_cons_succ]
      refine wpAnyH_done (by kernel_rfl) ?_ _
      refine NoPanic.normal ?_
      have HB8 : Hid (Below w.heap.size w w8) := HB6.out.trans ((hb7.trans (hb8.mono hb7.size)).mono HB6.out.size)
      have HT8 : Hid (Tb w8 lw B L) := HTb.out.below HB8.out
      clear hb7 hb8 hHeld HT6 HMY HCs HB6
      clear HDs
      go_wp2_with fail
      refine (tall_any HT8.out).mono ?_
      rintro e w9 ⟨v9, xs, rfl, hxs, hto9, hb9⟩
      have HB9 : Hid (Below w.heap.size w w9) := HB8.out.trans (hb9.mono HB8.out.size)
      have HT9 : Hid (Tb w9 lw B L) := HTb.out.below HB9.out
      have HXs : Hid (xs.map Ee.e = L) := hxs
      have HXl : Hid (xs.length = N) := by unfold Hid; rw [← HN.out, ← hxs, List.length_map]
      obtain ⟨a9, c9, hv9, _⟩ := hto9.form
      rw [HXl.out] at hv9
      subst hv9
      have HA9 : Hid (TOwn w9 w.heap.size (.slice a9 N c9) xs) := hto9.mono HB8.out.size
      clear hxs hto9 hb9 HT8 HB8
      have HSe : Hid (Calls Try.prog 44 #[.pointer (some ⟨B, 0, none⟩), .slice kka KK kkc, .int .i64 m] w9 _) := tseekI_any HT9.out _ key (HK.out.below HB9.out) m HM.out
      go_wp2_with fail
      refine HSe.out.mono ?_
      clear HSe
      rintro e w10 ⟨v10, ys, rfl, hys, hto10, hb10⟩
      have HB10 : Hid (Below w.heap.size w w10) := HB9.out.trans (hb10.mono HB9.out.size)
      have HT10 : Hid (Tb w10 lw B L) := HTb.out.below HB10.out
      have HYs : Hid (ys.map Ee.e = skI L key m) := hys
      obtain ⟨YL, HYl⟩ : ∃ n, Hid (ys.length = n) := ⟨_, rfl⟩
      obtain ⟨a10, c10, hv10, _⟩ := hto10.form
      rw [HYl.out] at hv10
      subst hv10
      have HA10 : Hid (TOwn w10 w.heap.size (.slice a9 N c9) xs) := HA9.out.below hb10
      have HY10 : Hid (TOwn w10 w9.heap.size (.slice a10 YL c10) ys) := hto10
      clear hys hto10 hb10 HT9 HA9
      go_wp2_with fail
      refine (tends_any HT10.out).mono ?_
      rintro e w11 ⟨fv, zv, rfl, hof, hoz, hb11⟩
      have HB11 : Hid (Below w.heap.size w w11) := HB10.out.trans (hb11.mono HB10.out.size)
      have HBd : Hid (Below w.heap.size w w11.drew) := HB11.out.drew
      have HA11 : Hid (TOwn w11 w.heap.size (.slice a9 N c9) xs) := HA10.out.below hb11
      have hdd : Below w11.heap.size w11 w11.drew := (Below.refl _ _).drew
      have hta := HA11.out.reads
      rw [HXs.out] at hta
      have HTA : Hid (TRd w11.drew (.slice a9 N c9) L) := hta.below hdd
      have hty := (HY10.out.below hb11).reads
      rw [HYs.out] at hty
      have HTY : Hid (TRd w11.drew (.slice a10 YL c10) (skI L key m)) := hty.below hdd
      obtain ⟨FL, HFL⟩ : ∃ n, Hid ((keyF L).length = n) := ⟨_, rfl⟩
      obtain ⟨ZL, HZL⟩ : ∃ n, Hid ((keyZ L).length = n) := ⟨_, rfl⟩
      obtain ⟨af, cf, hfv, _⟩ := hof.form
      obtain ⟨az, cz, hzv, _⟩ := hoz.form
      rw [HFL.out] at hfv
      rw [HZL.out] at hzv
      subst hfv
      subst hzv
      have HOf : Hid (Own w11.drew w10.heap.size (.slice af FL cf) (keyF L)) := hof.below hdd
      have HOz : Hid (Own w11.drew w10.heap.size (.slice az ZL cz) (keyZ L)) := hoz.below hdd
      have HSm1 : Hid (Calls Try.prog 46 #[.slice a9 N c9, .slice a N cap] w11.drew _) := same10_true _ _ L w11.drew HTA.out (HR.out.below HBd.out)
      clear hta hty hof hoz hb11 hdd HT10 HA10 HY10 HTA HXl
      rw [show decide (0 < L.length) = true from by rw [HN.out]; exact decide_eq_true hNp]
      obtain ⟨Q, HQ⟩ : ∃ q, Hid (N - 1 = q) := ⟨_, rfl⟩
      have hQN : Q < L.length := by rw [HN.out, ← HQ.out]; omega
      have hL0 : 0 < L.length := by rw [HN.out]; exact hNp
      obtain ⟨b2, off2, kf, he2, hbw2, hcs2, hrf, hag2⟩ := HR.out.at (j := 0) hL0 rfl
      subst he2
      obtain ⟨b3, off3, kz, he3, hbw3, hcs3, hrz, hag3⟩ := HR.out.at (j := Q) hQN rfl
      simp only [Option.some.injEq, Addr.mk.injEq, and_true] at he3
      obtain ⟨rfl, rfl⟩ := he3
      rw [← keyF_of hL0] at hrf
      rw [show (L[Q]'hQN).1 = keyZ L from by rw [keyZ_of (by omega)]; congr 2; rw [HN.out, HQ.out]] at hrz
      have cF := hcs2 0 (by decide)
      have cZ := hcs3 0 (by decide)
      simp only [e7, List.getElem_cons_zero, Nat.add_zero, Nat.zero_mul] at cF cZ
      obtain ⟨fa, fc, hkf, _⟩ := hrf.form
      obtain ⟨za, zc, hkz, _⟩ := hrz.form
      rw [HFL.out] at hkf
      rw [HZL.out] at hkz
      subst hkf
      subst hkz
      have HCF : Hid (b2 < w11.drew.heap.size ∧ w11.drew.cell? ⟨b2, off2, none⟩ = some (.slice fa FL fc) ∧ w11.drew.cell? ⟨b2, off2 + Q * 7, none⟩ = some (.slice za ZL zc)) := ⟨Nat.lt_of_lt_of_le hbw2 HBd.out.size, (HBd.out.cell (p := ⟨b2, off2, none⟩) hbw2).trans cF, (HBd.out.cell (p := ⟨b2, off2 + Q * 7, none⟩) hbw2).trans cZ⟩
      obtain ⟨FK, HFK⟩ := hid_ex (keyF L)
      obtain ⟨ZK, HZK⟩ := hid_ex (keyZ L)
      rw [← HFK.out] at hrf
      rw [← HZK.out] at hrz
      have HRF : Hid (Reads w11.drew (.slice fa FL fc) FK) := hrf.below HBd.out
      have HRZ : Hid (Reads w11.drew (.slice za ZL zc) ZK) := hrz.below HBd.out
      have HRf : Hid (Reads w11.drew (.slice af FL cf) FK) := by rw [HFK.out]; exact HOf.out.reads
      have HRz : Hid (Reads w11.drew (.slice az ZL cz) ZK) := by rw [HZK.out]; exact HOz.out.reads
      have hQs : (N : Int) - 1 = (Q : Int) := by have := HQ.out; omega
      have hQw : IntKind.i64.wrap (Q : Int) = (Q : Int) := by have := HQ.out; simp [IntKind.wrap, IntKind.bits, IntKind.signed]; omega
      have hQN2 : Q < N := by have := HQ.out; omega
      have hQN3 : ¬ N ≤ Q := by omega
      have hN0' : ¬ N = 0 := by omega
      clear hrf hrz cF cZ hag2 hag3 hcs2 hcs3 hbw2 hbw3 HFK HZK hQN hL0
      go_wp2_with fail
      refine wp_region_noPanic ?_
      refine wp_region_held_drew (S := fun w' => Below w11.drew.heap.size w11.drew w') (by kernel_rfl) ?_ (fun hHeld => ?_)
      · exact Below.refl _ _
      refine wpAnyH_take (i := 0) (v := .slice a9 N c9) rfl (by kernel_rfl) (by kernel_rfl) (by kernel_rfl) (fun _ _ _ h => h) (Or.inl ⟨by rfl, ?_⟩) (by assumption) ?_
      · (intro w1 hSw; (try dsimp only at hSw); go_simp)
      simp only [List.getElem_toArray, List.getElem_cons_zero, Act.put, List.setIfInBounds_toArray, List.set_cons_zero, List.set_cons_succ]
      refine wpAnyH_take (i := 1) (v := .slice (some ⟨b2, off2, none⟩) N cap) rfl (by kernel_rfl) (by kernel_rfl) (by kernel_rfl) (fun _ _ _ h => h) (Or.inl ⟨by rfl, ?_⟩) (by assumption) ?_
      · (intro w1 hSw; (try dsimp only at hSw); go_simp)
      simp only [List.getElem_toArray, List.getElem_cons_succ, List.getElem_cons_zero, Act.put, List.setIfInBounds_toArray, List.set_cons_zero, List.set_cons_succ]
      refine wpAnyH_ready (rs := [2]) (by kernel_rfl) (by simp) ?_
      refine AllReadyH.cons (o := _) rfl (fun K hK => ?_) AllReadyH.nil
      go_simp
      refine HSm1.out.mono ?_
      clear HSm1
      rintro e w12 ⟨rfl, hb12⟩
      go_simp
      refine hK.out _ _ ?_ (fun hHeld => ?_)
      · exact hb12
      clear hK K
      refine wpAnyH_take (i := 3) (v := .bool false) rfl (by kernel_rfl) (by kernel_rfl) (by kernel_rfl) (fun _ _ _ h => h) (Or.inl ⟨by rfl, ?_⟩) (by assumption) ?_
      · (intro w1 hSw; (try dsimp only at hSw); go_simp)
      simp only [List.getElem_toArray, List.getElem_cons_succ, List.getElem_cons_zero, Act.put, List.setIfInBounds_toArray, List.set_cons_zero, List.set_cons_succ]
      refine wpAnyH_take (i := 4) (v := .bool false) rfl (by kernel_rfl) (by kernel_rfl) (by kernel_rfl) (fun _ _ _ h => h) (Or.inl ⟨by rfl, ?_⟩) (by assumption) ?_
      · (intro w1 hSw; (try dsimp only at hSw); go_simp)
      simp only [List.getElem_toArray, List.getElem_cons_succ, List.getElem_cons_zero, Act.put, List.setIfInBounds_toArray, List.set_cons_zero, List.set_cons_succ]
      refine wpAnyH_take (i := 5) (v := .slice a10 YL c10) rfl (by kernel_rfl) (by kernel_rfl) (by kernel_rfl) (fun _ _ _ h => h) (Or.inl ⟨by rfl, ?_⟩) (by assumption) ?_
      · (intro w1 hSw; (try dsimp only at hSw); go_simp)
      simp only [List.getElem_toArray, List.getElem_cons_succ, List.getElem_cons_zero, Act.put, List.setIfInBounds_toArray, List.set_cons_zero, List.set_cons_succ]
      refine wpAnyH_take (i := 6) (v := .slice (some ⟨b2, off2, none⟩) N cap) rfl (by kernel_rfl) (by kernel_rfl) (by kernel_rfl) (fun _ _ _ h => h) (Or.inl ⟨by rfl, ?_⟩) (by assumption) ?_
      · (intro w1 hSw; (try dsimp only at hSw); go_simp)
      simp only [List.getElem_toArray, List.getElem_cons_succ, List.getElem_cons_zero, Act.put, List.setIfInBounds_toArray, List.set_cons_zero, List.set_cons_succ]
      refine wpAnyH_take (i := 7) (v := .slice kka KK kkc) rfl (by kernel_rfl) (by kernel_rfl) (by kernel_rfl) (fun _ _ _ h => h) (Or.inl ⟨by rfl, ?_⟩) (by assumption) ?_
      · (intro w1 hSw; (try dsimp only at hSw); go_simp)
      simp only [List.getElem_toArray, List.getElem_cons_succ, List.getElem_cons_zero, Act.put, List.setIfInBounds_toArray, List.set_cons_zero, List.set_cons_succ]
      refine wpAnyH_take (i := 8) (v := .int .i64 m) rfl (by kernel_rfl) (by kernel_rfl) (by kernel_rfl) (fun _ _ _ h => h) (Or.inl ⟨by rfl, ?_⟩) (by assumption) ?_
      · (intro w1 hSw; (try dsimp only at hSw); go_simp)
      simp only [List.getElem_toArray, List.getElem_cons_succ, List.getElem_cons_zero, Act.put, List.setIfInBounds_toArray, List.set_cons_zero, List.set_cons_succ]
      have HB12 : Hid (Below w.heap.size w w12) := HBd.out.trans (hb12.mono HBd.out.size)
      have HRs : Hid (Calls Try.prog 40 #[.slice (some ⟨b2, off2, none⟩) N cap, .slice kka KK kkc, .int .i64 m] w12 _) := refSeek10_any _ _ L key m w12 (HR.out.below HB12.out) (HK.out.below HB12.out) (by rw [HN.out]; omega)
      refine wpAnyH_ready (rs := [9]) (by kernel_rfl) (by simp) ?_
      refine AllReadyH.cons (o := _) rfl (fun K hK => ?_) AllReadyH.nil
      go_simp
      refine HRs.out.mono ?_
      clear HRs
      rintro e w13 ⟨v13, rfl, hs13, hb13⟩
      go_simp
      refine hK.out _ _ ?_ (fun hHeld => ?_)
      · exact hb12.trans (hb13.mono hb12.size)
      clear hK K
      have hsm2 := same10_true _ v13 _ w13 ((HTY.out.below hb12).below hb13) (hs13.reads hb13)
      obtain ⟨a13, c13, hv13, _⟩ := hs13.form
      obtain ⟨SL, HSL⟩ : ∃ n, Hid ((skI L key m).length = n) := ⟨_, rfl⟩
      rw [HSL.out] at hv13
      subst hv13
      have HSm2 : Hid (Calls Try.prog 46 #[.slice a10 YL c10, .slice a13 SL c13] w13 _) := hsm2
      clear hsm2 hs13
      refine wpAnyH_ready (rs := [10]) (by kernel_rfl) (by simp) ?_
      refine AllReadyH.cons (o := _) rfl (fun K hK => ?_) AllReadyH.nil
      go_simp
      refine HSm2.out.mono ?_
      clear HSm2
      rintro e w14 ⟨rfl, hb14⟩
      go_simp
      refine hK.out _ _ ?_ (fun hHeld => ?_)
      · exact (hb12.trans (hb13.mono hb12.size)).trans (hb14.mono (Nat.le_trans hb12.size hb13.size))
      clear hK K
      refine wpAnyH_take (i := 11) (v := .bool false) rfl (by kernel_rfl) (by kernel_rfl) (by kernel_rfl) (fun _ _ _ h => h) (Or.inl ⟨by rfl, ?_⟩) (by assumption) ?_
      · (intro w1 hSw; (try dsimp only at hSw); go_simp)
      simp only [List.getElem_toArray, List.getElem_cons_succ, List.getElem_cons_zero, Act.put, List.setIfInBounds_toArray, List.set_cons_zero, List.set_cons_succ]
      refine wpAnyH_take (i := 12) (v := .bool false) rfl (by kernel_rfl) (by kernel_rfl) (by kernel_rfl) (fun _ _ _ h => h) (Or.inl ⟨by rfl, ?_⟩) (by assumption) ?_
      · (intro w1 hSw; (try dsimp only at hSw); go_simp)
      simp only [List.getElem_toArray, List.getElem_cons_succ, List.getElem_cons_zero, Act.put, List.setIfInBounds_toArray, List.set_cons_zero, List.set_cons_succ]
      refine wpAnyH_take (i := 13) (v := .bool false) rfl (by kernel_rfl) (by kernel_rfl) (by kernel_rfl) (fun _ _ _ h => h) (Or.inl ⟨by rfl, ?_⟩) (by assumption) ?_
      · (intro w1 hSw; (try dsimp only at hSw); go_simp)
      simp only [List.getElem_toArray, List.getElem_cons_succ, List.getElem_cons_zero, Act.put, List.setIfInBounds_toArray, List.set_cons_zero, List.set_cons_succ]
      refine wpAnyH_take (i := 14) (v := .bool true) rfl (by kernel_rfl) (by kernel_rfl) (by kernel_rfl) (fun _ _ _ h => h) (Or.inl ⟨by rfl, ?_⟩) (by assumption) ?_
      · (intro w1 hSw; (try dsimp only at hSw); go_simp)
      simp only [List.getElem_toArray, List.getElem_cons_succ, List.getElem_cons_zero, Act.put, List.setIfInBounds_toArray, List.set_cons_zero, List.set_cons_succ]
      refine wpAnyH_take (i := 15) (v := .slice (some ⟨b2, off2, none⟩) N cap) rfl (by kernel_rfl) (by kernel_rfl) (by kernel_rfl) (fun _ _ _ h => h) (Or.inl ⟨by rfl, ?_⟩) (by assumption) ?_
      · (intro w1 hSw; (try dsimp only at hSw); go_simp)
      simp only [List.getElem_toArray, List.getElem_cons_succ, List.getElem_cons_zero, Act.put, List.setIfInBounds_toArray, List.set_cons_zero, List.set_cons_succ]
      refine wpAnyH_take (i := 16) (v := .int .i64 (N : Int)) rfl (by kernel_rfl) (by kernel_rfl) (by kernel_rfl) (fun _ _ _ h => h) (Or.inl ⟨by rfl, ?_⟩) (by assumption) ?_
      · (intro w1 hSw; (try dsimp only at hSw); go_simp)
      simp only [List.getElem_toArray, List.getElem_cons_succ, List.getElem_cons_zero, Act.put, List.setIfInBounds_toArray, List.set_cons_zero, List.set_cons_succ]
      refine wpAnyH_take (i := 17) (v := .bool true) rfl (by kernel_rfl) (by kernel_rfl) (by kernel_rfl) (fun _ _ _ h => h) (Or.inl ⟨by rfl, ?_⟩) (by assumption) ?_
      · (intro w1 hSw; (try dsimp only at hSw); go_simp)
      simp only [List.getElem_toArray, List.getElem_cons_succ, List.getElem_cons_zero, Act.put, List.setIfInBounds_toArray, List.set_cons_zero, List.set_cons_succ]
      refine wpAnyH_take (i := 18) (v := .bool false) rfl (by kernel_rfl) (by kernel_rfl) (by kernel_rfl) (fun _ _ _ h => h) (Or.inl ⟨by rfl, ?_⟩) (by assumption) ?_
      · (intro w1 hSw; (try dsimp only at hSw); go_simp)
      simp only [List.getElem_toArray, List.getElem_cons_succ, List.getElem_cons_zero, Act.put, List.setIfInBounds_toArray, List.set_cons_zero, List.set_cons_succ]
      refine wpAnyH_take (i := 19) (v := .bool false) rfl (by kernel_rfl) (by kernel_rfl) (by kernel_rfl) (fun _ _ _ h => h) (Or.inl ⟨by rfl, ?_⟩) (by assumption) ?_
      · (intro w1 hSw; (try dsimp only at hSw); go_simp)
      simp only [List.getElem_toArray, List.getElem_cons_succ, List.getElem_cons_zero, Act.put, List.setIfInBounds_toArray, List.set_cons_zero, List.set_cons_succ]
      refine wpAnyH_take (i := 20) (v := .bool false) rfl (by kernel_rfl) (by kernel_rfl) (by kernel_rfl) (fun _ _ _ h => h) (Or.inl ⟨by rfl, ?_⟩) (by assumption) ?_
      · (intro w1 hSw; (try dsimp only at hSw); go_simp)
      simp only [List.getElem_toArray, List.getElem_cons_succ, List.getElem_cons_zero, Act.put, List.setIfInBounds_toArray, List.set_cons_zero, List.set_cons_succ]
      refine wpAnyH_take (i := 21) (v := .bool true) rfl (by kernel_rfl) (by kernel_rfl) (by kernel_rfl) (fun _ _ _ h => h) (Or.inl ⟨by rfl, ?_⟩) (by assumption) ?_
      · (intro w1 hSw; (try dsimp only at hSw); go_simp)
      simp only [List.getElem_toArray, List.getElem_cons_succ, List.getElem_cons_zero, Act.put, List.setIfInBounds_toArray, List.set_cons_zero, List.set_cons_succ]
      refine wpAnyH_take (i := 22) (v := .bool true) rfl (by kernel_rfl) (by kernel_rfl) (by kernel_rfl) (fun _ _ _ h => h) (Or.inl ⟨by rfl, ?_⟩) (by assumption) ?_
      · (intro w1 hSw; (try dsimp only at hSw); go_simp)
      simp only [List.getElem_toArray, List.getElem_cons_succ, List.getElem_cons_zero, Act.put, List.setIfInBounds_toArray, List.set_cons_zero, List.set_cons_succ]
      refine wpAnyH_take (i := 23) (v := .slice af FL cf) rfl (by kernel_rfl) (by kernel_rfl) (by kernel_rfl) (fun _ _ _ h => h) (Or.inl ⟨by rfl, ?_⟩) (by assumption) ?_
      · (intro w1 hSw; (try dsimp only at hSw); go_simp)
      simp only [List.getElem_toArray, List.getElem_cons_succ, List.getElem_cons_zero, Act.put, List.setIfInBounds_toArray, List.set_cons_zero, List.set_cons_succ]
      refine wpAnyH_take (i := 24) (v := .string ⟨FK.toArray⟩) rfl (by kernel_rfl) (by kernel_rfl) (by kernel_rfl) (fun _ _ _ h => h) (Or.inl ⟨by rfl, ?_⟩) (by assumption) ?_
      · (intro w1 hSw; (try dsimp only at hSw); have h0 := reads_text (HRf.out.below hSw); go_simp)
      simp only [List.getElem_toArray, List.getElem_cons_succ, List.getElem_cons_zero, Act.put, List.setIfInBounds_toArray, List.set_cons_zero, List.set_cons_succ]
      refine wpAnyH_take (i := 25) (v := .slice (some ⟨b2, off2, none⟩) N cap) rfl (by kernel_rfl) (by kernel_rfl) (by kernel_rfl) (fun _ _ _ h => h) (Or.inl ⟨by rfl, ?_⟩) (by assumption) ?_
      · (intro w1 hSw; (try dsimp only at hSw); go_simp)
      simp only [List.getElem_toArray, List.getElem_cons_succ, List.getElem_cons_zero, Act.put, List.setIfInBounds_toArray, List.set_cons_zero, List.set_cons_succ]
      refine wpAnyH_take (i := 26) (v := .pointer (some ⟨b2, off2, none⟩)) rfl (by kernel_rfl) (by kernel_rfl) (by kernel_rfl) (fun _ _ _ h => h) (Or.inl ⟨by rfl, ?_⟩) (by assumption) ?_
      · (intro w1 hSw; (try dsimp only at hSw); go_simp)
      simp only [List.getElem_toArray, List.getElem_cons_succ, List.getElem_cons_zero, Act.put, List.setIfInBounds_toArray, List.set_cons_zero, List.set_cons_succ]
      refine wpAnyH_take (i := 27) (v := .pointer (some ⟨b2, off2, none⟩)) rfl (by kernel_rfl) (by kernel_rfl) (by kernel_rfl) (fun _ _ _ h => h) (Or.inl ⟨by rfl, ?_⟩) (by assumption) ?_
      · (intro w1 hSw; (try dsimp only at hSw); go_simp)
      simp only [List.getElem_toArray, List.getElem_cons_succ, List.getElem_cons_zero, Act.put, List.setIfInBounds_toArray, List.set_cons_zero, List.set_cons_succ]
      refine wpAnyH_take (i := 28) (v := .slice fa FL fc) rfl (by kernel_rfl) (by kernel_rfl) (by kernel_rfl) (fun _ _ _ h => h) (Or.inl ⟨by rfl, ?_⟩) (by assumption) ?_
      · (intro w1 hSw; (try dsimp only at hSw); have h0 := (hSw.cell (p := ⟨b2, off2, none⟩) HCF.out.1).trans HCF.out.2.1; go_simp)
      simp only [List.getElem_toArray, List.getElem_cons_succ, List.getElem_cons_zero, Act.put, List.setIfInBounds_toArray, List.set_cons_zero, List.set_cons_succ]
      refine wpAnyH_take (i := 29) (v := .string ⟨FK.toArray⟩) rfl (by kernel_rfl) (by kernel_rfl) (by kernel_rfl) (fun _ _ _ h => h) (Or.inl ⟨by rfl, ?_⟩) (by assumption) ?_
      · (intro w1 hSw; (try dsimp only at hSw); have h0 := reads_text (HRF.out.below hSw); go_simp)
      simp only [List.getElem_toArray, List.getElem_cons_succ, List.getElem_cons_zero, Act.put, List.setIfInBounds_toArray, List.set_cons_zero, List.set_cons_succ]
      refine wpAnyH_take (i := 30) (v := .bool false) rfl (by kernel_rfl) (by kernel_rfl) (by kernel_rfl) (fun _ _ _ h => h) (Or.inl ⟨by rfl, ?_⟩) (by assumption) ?_
      · (intro w1 hSw; (try dsimp only at hSw); go_simp)
      simp only [List.getElem_toArray, List.getElem_cons_succ, List.getElem_cons_zero, Act.put, List.setIfInBounds_toArray, List.set_cons_zero, List.set_cons_succ]
      refine wpAnyH_take (i := 31) (v := .bool false) rfl (by kernel_rfl) (by kernel_rfl) (by kernel_rfl) (fun _ _ _ h => h) (Or.inl ⟨by rfl, ?_⟩) (by assumption) ?_
      · (intro w1 hSw; (try dsimp only at hSw); go_simp)
      simp only [List.getElem_toArray, List.getElem_cons_succ, List.getElem_cons_zero, Act.put, List.setIfInBounds_toArray, List.set_cons_zero, List.set_cons_succ]
      refine wpAnyH_take (i := 32) (v := .slice az ZL cz) rfl (by kernel_rfl) (by kernel_rfl) (by kernel_rfl) (fun _ _ _ h => h) (Or.inl ⟨by rfl, ?_⟩) (by assumption) ?_
      · (intro w1 hSw; (try dsimp only at hSw); go_simp)
      simp only [List.getElem_toArray, List.getElem_cons_succ, List.getElem_cons_zero, Act.put, List.setIfInBounds_toArray, List.set_cons_zero, List.set_cons_succ]
      refine wpAnyH_take (i := 33) (v := .string ⟨ZK.toArray⟩) rfl (by kernel_rfl) (by kernel_rfl) (by kernel_rfl) (fun _ _ _ h => h) (Or.inl ⟨by rfl, ?_⟩) (by assumption) ?_
      · (intro w1 hSw; (try dsimp only at hSw); have h0 := reads_text (HRz.out.below hSw); go_simp)
      simp only [List.getElem_toArray, List.getElem_cons_succ, List.getElem_cons_zero, Act.put, List.setIfInBounds_toArray, List.set_cons_zero, List.set_cons_succ]
      refine wpAnyH_take (i := 34) (v := .slice (some ⟨b2, off2, none⟩) N cap) rfl (by kernel_rfl) (by kernel_rfl) (by kernel_rfl) (fun _ _ _ h => h) (Or.inl ⟨by rfl, ?_⟩) (by assumption) ?_
      · (intro w1 hSw; (try dsimp only at hSw); go_simp)
      simp only [List.getElem_toArray, List.getElem_cons_succ, List.getElem_cons_zero, Act.put, List.setIfInBounds_toArray, List.set_cons_zero, List.set_cons_succ]
      refine wpAnyH_take (i := 35) (v := .slice (some ⟨b2, off2, none⟩) N cap) rfl (by kernel_rfl) (by kernel_rfl) (by kernel_rfl) (fun _ _ _ h => h) (Or.inl ⟨by rfl, ?_⟩) (by assumption) ?_
      · (intro w1 hSw; (try dsimp only at hSw); go_simp)
      simp only [List.getElem_toArray, List.getElem_cons_succ, List.getElem_cons_zero, Act.put, List.setIfInBounds_toArray, List.set_cons_zero, List.set_cons_succ]
      refine wpAnyH_take (i := 36) (v := .int .i64 (N : Int)) rfl (by kernel_rfl) (by kernel_rfl) (by kernel_rfl) (fun _ _ _ h => h) (Or.inl ⟨by rfl, ?_⟩) (by assumption) ?_
      · (intro w1 hSw; (try dsimp only at hSw); go_simp)
      simp only [List.getElem_toArray, List.getElem_cons_succ, List.getElem_cons_zero, Act.put, List.setIfInBounds_toArray, List.set_cons_zero, List.set_cons_succ]
      refine wpAnyH_take (i := 37) (v := .int .i64 (Q : Int)) rfl (by kernel_rfl) (by kernel_rfl) (by kernel_rfl) (fun _ _ _ h => h) (Or.inl ⟨by rfl, ?_⟩) (by assumption) ?_
      · (intro w1 hSw; (try dsimp only at hSw); go_simp)
      simp only [List.getElem_toArray, List.getElem_cons_succ, List.getElem_cons_zero, Act.put, List.setIfInBounds_toArray, List.set_cons_zero, List.set_cons_succ]
      refine wpAnyH_take (i := 38) (v := .pointer (some ⟨b2, off2 + Q * 7, none⟩)) rfl (by kernel_rfl) (by kernel_rfl) (by kernel_rfl) (fun _ _ _ h => h) (Or.inl ⟨by rfl, ?_⟩) (by assumption) ?_
      · (intro w1 hSw; (try dsimp only at hSw); go_simp)
      simp only [List.getElem_toArray, List.getElem_cons_succ, List.getElem_cons_zero, Act.put, List.setIfInBounds_toArray, List.set_cons_zero, List.set_cons_succ]
      refine wpAnyH_take (i := 39) (v := .pointer (some ⟨b2, off2 + Q * 7, none⟩)) rfl (by kernel_rfl) (by kernel_rfl) (by kernel_rfl) (fun _ _ _ h => h) (Or.inl ⟨by rfl, ?_⟩) (by assumption) ?_
      · (intro w1 hSw; (try dsimp only at hSw); go_simp)
      simp only [List.getElem_toArray, List.getElem_cons_succ, List.getElem_cons_zero, Act.put, List.setIfInBounds_toArray, List.set_cons_zero, List.set_cons_succ]
      refine wpAnyH_take (i := 40) (v := .slice za ZL zc) rfl (by kernel_rfl) (by kernel_rfl) (by kernel_rfl) (fun _ _ _ h => h) (Or.inl ⟨by rfl, ?_⟩) (by assumption) ?_
      · (intro w1 hSw; (try dsimp only at hSw); have h0 := (hSw.cell (p := ⟨b2, off2 + Q * 7, none⟩) HCF.out.1).trans HCF.out.2.2; go_simp)
      simp only [List.getElem_toArray, List.getElem_cons_succ, List.getElem_cons_zero, Act.put, List.setIfInBounds_toArray, List.set_cons_zero, List.set_cons_succ]
      refine wpAnyH_take (i := 41) (v := .string ⟨ZK.toArray⟩) rfl (by kernel_rfl) (by kernel_rfl) (by kernel_rfl) (fun _ _ _ h => h) (Or.inl ⟨by rfl, ?_⟩) (by assumption) ?_
      · (intro w1 hSw; (try dsimp only at hSw); have h0 := reads_text (HRZ.out.below hSw); go_simp)
      simp only [List.getElem_toArray, List.getElem_cons_succ, List.getElem_cons_zero, Act.put, List.setIfInBounds_toArray, List.set_cons_zero, List.set_cons_succ]
      refine wpAnyH_take (i := 42) (v := .bool false) rfl (by kernel_rfl) (by kernel_rfl) (by kernel_rfl) (fun _ _ _ h => h) (Or.inl ⟨by rfl, ?_⟩) (by assumption) ?_
      · (intro w1 hSw; (try dsimp only at hSw); go_simp)
      simp only [List.getElem_toArray, List.getElem_cons_succ, List.getElem_cons_zero, Act.put, List.setIfInBounds_toArray, List.set_cons_zero, List.set_cons_succ]
      refine wpAnyH_take (i := 43) (v := .bool false) rfl (by kernel_rfl) (by kernel_rfl) (by kernel_rfl) (fun _ _ _ h => h) (Or.inl ⟨by rfl, ?_⟩) (by assumption) ?_
      · (intro w1 hSw; (try dsimp only at hSw); go_simp)
      simp only [List.getElem_toArray, List.getElem_cons_succ, List.getElem_cons_zero, Act.put, List.setIfInBounds_toArray, List.set_cons_zero, List.set_cons_succ]
      refine wpAnyH_take (i := 44) (v := .bool false) rfl (by kernel_rfl) (by kernel_rfl) (by kernel_rfl) (fun _ _ _ h => h) (Or.inl ⟨by rfl, ?_⟩) (by assumption) ?_
      · (intro w1 hSw; (try dsimp only at hSw); go_simp)
      simp only [List.getElem_toArray, List.getElem_cons_succ, List.getElem_cons_zero, Act.put, List.setIfInBounds_toArray, List.set_cons_zero, List.set_cons_succ]
      refine wpAnyH_take (i := 45) (v := .bool false) rfl (by kernel_rfl) (by kernel_rfl) (by kernel_rfl) (fun _ _ _ h => h) (Or.inl ⟨by rfl, ?_⟩) (by assumption) ?_
      · (intro w1 hSw; (try dsimp only at hSw); go_simp)
      simp only [List.getElem_toArray, List.getElem_cons_succ, List.getElem_cons_zero, Act.put, List.setIfInBounds_toArray, List.set_cons_zero, List.set_cons_succ]
      refine wpAnyH_done (by kernel_rfl) ?_ _
      refine NoPanic.normal ?_
      have hbe14 : Below w11.drew.heap.size w11.drew w14 := (hb12.trans (hb13.mono hb12.size)).trans (hb14.mono (Nat.le_trans hb12.size hb13.size))
      have HB14 : Hid (Below w.heap.size w w14) := HBd.out.trans (hbe14.mono HBd.out.size)
      have HA14 : Hid (Al w14 w.heap.size (.slice a9 N c9) xs) := Al.of ((HA11.out.below (Below.refl _ _).drew).below hbe14) (Nat.le_refl _)
      have HF14 : Hid (Hld w14 w.heap.size (.slice af FL cf) FL) := Hld.of (HOf.out.below hbe14) HB10.out.size HFL.out
      have HZ14 : Hid (Hld w14 w.heap.size (.slice az ZL cz) ZL) := Hld.of (HOz.out.below hbe14) HB10.out.size HZL.out
      have HKp : Hid (∀ x ∈ xs, 0 < x.e.1.length) := fun x hx => by
        have : x.e ∈ L := by rw [← HXs.out]; exact List.mem_map_of_mem hx
        exact (HOk.out.k _ this).1
      have HXl : Hid (xs.length = N) := by unfold Hid; rw [← HN.out, ← HXs.out, List.length_map]
      have HFZ : Hid (0 < ZL → 0 < FL) := fun h => by
        have h0 : 0 < L.length := by
          rcases Nat.eq_zero_or_pos L.length with q | q
          · exfalso
            rw [List.length_eq_zero_iff] at q
            rw [← HZL.out, q] at h
            exact absurd h (by decide)
          · exact q
        rw [← HFL.out, keyF_of h0]
        exact (HOk.out.k _ (List.getElem_mem h0)).1
      have hZb : ZL ≤ 256 := by
        rcases Nat.eq_zero_or_pos L.length with q | q
        · rw [List.length_eq_zero_iff] at q; rw [← HZL.out, q]; decide
        · rw [← HZL.out, keyZ_of (by omega)]; exact (HOk.out.k _ (List.getElem_mem _)).2
      clear hb12 hb13 hb14 hbe14 hHeld HB12 HTY HOf HOz HA11 HBd HB11 HB10 HYs HYl HSL HXs
      clear HRF HRZ HRf HRz HCF hQs hQw hQN2 hQN3
      go_wp2_with fail
      go_loopw [18] (fun i wr => ∃ k : Nat, i = .int .i64 (k : Int) ∧ k ≤ N ∧ Hid (Al wr w.heap.size (.slice a9 N c9) xs) ∧ Hid (Hld wr w.heap.size (.slice af FL cf) FL) ∧ Hid (Hld wr w.heap.size (.slice az ZL cz) ZL) ∧ Hid (Below w.heap.size w wr)) (fun i _ => N - (intOf i).toNat)
      case atStart => exact ⟨0, rfl, by omega, HA14, HF14, HZ14, HB14⟩
      case round =>
        obtain ⟨k, rfl, hk, HA, HF, HZ, HB⟩ := hrel
        by_cases hlt : k < N
        · have hlt' : (k : Int) < (N : Int) := by omega
          have hkx : k < xs.length := by rw [HXl.out]; exact hlt
          obtain ⟨g, rfl, hc0, hld⟩ := HA.out.at hkx rfl
          have hkp := HKp.out _ (List.getElem_mem hkx)
          obtain ⟨kg, kcp, x0, hkv, hkg, hkg2, hx0, hcx, hfx, cs, hcs⟩ := hld.cell hkp
          obtain ⟨KL, HKL⟩ := hid_ex (xs[k]'hkx).e.1.length
          rw [← HKL.out] at hkv hkp
          rw [hkv] at hc0
          obtain ⟨y, hy⟩ := xor_255 x0 hx0
          have hzr : Below wr.heap.size wr wr.drew := (Below.refl _ _).drew
          have HAd := HA.out.below hzr
          have HFd := HF.out.below hzr
          have HZd := HZ.out.below hzr
          have HAn : Hid (Al (wr.drew.setCell ⟨kg, 0, none⟩ (.int .u8 (y.toNat : Int))) w.heap.size (.slice (some ⟨g, 0, none⟩) N c9) xs) := HAd.turn y hcs
          have HFn : Hid (Hld (wr.drew.setCell ⟨kg, 0, none⟩ (.int .u8 (y.toNat : Int))) w.heap.size (.slice af FL cf) FL) := HFd.turn y
          have HZn : Hid (Hld (wr.drew.setCell ⟨kg, 0, none⟩ (.int .u8 (y.toNat : Int))) w.heap.size (.slice az ZL cz) ZL) := HZd.turn y
          have HBn : Hid (Below w.heap.size w (wr.drew.setCell ⟨kg, 0, none⟩ (.int .u8 (y.toNat : Int)))) := HB.out.drew.trans ((Below.refl _ _).setCell hkg _)
          have hc0' : (wr.drew.setCell ⟨kg, 0, none⟩ (.int .u8 (y.toNat : Int))).cell? ⟨g, k * 7, none⟩ = some (.slice (some ⟨kg, 0, none⟩) KL kcp) := by
            obtain ⟨g9, he9, hc9, _⟩ := HAn.out.at hkx rfl
            simp only [Option.some.injEq, Addr.mk.injEq, and_true] at he9
            subst he9
            rw [← hkv]; exact hc9
          have HC0 : Hid (wr.drew.cell? ⟨g, k * 7, none⟩ = some (.slice (some ⟨kg, 0, none⟩) KL kcp) ∧ wr.drew.cell? ⟨kg, 0, none⟩ = some (.int .u8 (x0 : Int)) ∧ wr.drew.frozen? ⟨kg, 0, none⟩ = false) := ⟨hc0, hcx, hfx⟩
          have HC0' : Hid _ := hc0'
          have hkp' : (KL : Int) > 0 := by omega
          have hkp2 : ¬ KL = 0 := by omega
          have hfd : wr.drew.frozen? ⟨kg, 0, none⟩ = false := hfx
          have hcd : wr.drew.cell? ⟨kg, 0, none⟩ = some (.int .u8 (x0 : Int)) := hcx
          clear hld hcs hkv hkg hkg2 hx0 HAd HFd HZd hc0 hcx hfx hc0'
          go_wp2_with fail
          refine wp_region_noPanic ?_
          refine wp_region_S 14 (fun w' => w'.cell? ⟨g, k * 7, none⟩ = some (.slice (some ⟨kg, 0, none⟩) KL kcp)) (fun w' => w'.cell? ⟨kg, 0, none⟩ = some (.int .u8 (x0 : Int))) (by kernel_rfl) ?_ ?_ (fun hHeld => ?_)
          · exact HC0.out.1
          · exact HC0.out.2.1
          refine wpAnyS_take (i := 0) (v := .slice (some ⟨g, 0, none⟩) N c9) _ rfl (by kernel_rfl) (by kernel_rfl) (by kernel_rfl) (by kernel_rfl) (by kernel_rfl) rfl (fun _ _ _ h => h) (Or.inl ⟨by rfl, ?_⟩) hHeld (fun hHeld => ?_)
          · (intro w1 hSw; have hSw := hSw.1; (try dsimp only at hSw); go_simp)
          simp only [List.getElem_toArray, List.getElem_cons_zero, Act.put, List.setIfInBounds_toArray, List.set_cons_zero, List.set_cons_succ]
          refine wpAnyS_take (i := 1) (v := .int .i64 (k : Int)) _ rfl (by kernel_rfl) (by kernel_rfl) (by kernel_rfl) (by kernel_rfl) (by kernel_rfl) rfl (fun _ _ _ h => h) (Or.inl ⟨by rfl, ?_⟩) hHeld (fun hHeld => ?_)
          · (intro w1 hSw; have hSw := hSw.1; (try dsimp only at hSw); go_simp)
          simp only [List.getElem_toArray, List.getElem_cons_succ, List.getElem_cons_zero, Act.put, List.setIfInBounds_toArray, List.set_cons_zero, List.set_cons_succ]
          refine wpAnyS_take (i := 2) (v := .pointer (some ⟨g, k * 7, none⟩)) _ rfl (by kernel_rfl) (by kernel_rfl) (by kernel_rfl) (by kernel_rfl) (by kernel_rfl) rfl (fun _ _ _ h => h) (Or.inl ⟨by rfl, ?_⟩) hHeld (fun hHeld => ?_)
          · (intro w1 hSw; have hSw := hSw.1; (try dsimp only at hSw); go_simp)
          simp only [List.getElem_toArray, List.getElem_cons_succ, List.getElem_cons_zero, Act.put, List.setIfInBounds_toArray, List.set_cons_zero, List.set_cons_succ]
          refine wpAnyS_take (i := 3) (v := .pointer (some ⟨g, k * 7, none⟩)) _ rfl (by kernel_rfl) (by kernel_rfl) (by kernel_rfl) (by kernel_rfl) (by kernel_rfl) rfl (fun _ _ _ h => h) (Or.inl ⟨by rfl, ?_⟩) hHeld (fun hHeld => ?_)
          · (intro w1 hSw; have hSw := hSw.1; (try dsimp only at hSw); go_simp)
          simp only [List.getElem_toArray, List.getElem_cons_succ, List.getElem_cons_zero, Act.put, List.setIfInBounds_toArray, List.set_cons_zero, List.set_cons_succ]
          refine wpAnyS_take (i := 4) (v := .slice (some ⟨kg, 0, none⟩) KL kcp) _ rfl (by kernel_rfl) (by kernel_rfl) (by kernel_rfl) (by kernel_rfl) (by kernel_rfl) rfl (fun _ _ _ h => h) (Or.inl ⟨by rfl, ?_⟩) hHeld (fun hHeld => ?_)
          · (intro w1 hSw; have hSw := hSw.1; (try dsimp only at hSw); go_simp)
          simp only [List.getElem_toArray, List.getElem_cons_succ, List.getElem_cons_zero, Act.put, List.setIfInBounds_toArray, List.set_cons_zero, List.set_cons_succ]
          refine wpAnyS_take (i := 5) (v := .slice (some ⟨g, 0, none⟩) N c9) _ rfl (by kernel_rfl) (by kernel_rfl) (by kernel_rfl) (by kernel_rfl) (by kernel_rfl) rfl (fun _ _ _ h => h) (Or.inl ⟨by rfl, ?_⟩) hHeld (fun hHeld => ?_)
          · (intro w1 hSw; have hSw := hSw.1; (try dsimp only at hSw); go_simp)
          simp only [List.getElem_toArray, List.getElem_cons_succ, List.getElem_cons_zero, Act.put, List.setIfInBounds_toArray, List.set_cons_zero, List.set_cons_succ]
          refine wpAnyS_take (i := 6) (v := .int .i64 (k : Int)) _ rfl (by kernel_rfl) (by kernel_rfl) (by kernel_rfl) (by kernel_rfl) (by kernel_rfl) rfl (fun _ _ _ h => h) (Or.inl ⟨by rfl, ?_⟩) hHeld (fun hHeld => ?_)
          · (intro w1 hSw; have hSw := hSw.1; (try dsimp only at hSw); go_simp)
          simp only [List.getElem_toArray, List.getElem_cons_succ, List.getElem_cons_zero, Act.put, List.setIfInBounds_toArray, List.set_cons_zero, List.set_cons_succ]
          refine wpAnyS_take (i := 7) (v := .pointer (some ⟨g, k * 7, none⟩)) _ rfl (by kernel_rfl) (by kernel_rfl) (by kernel_rfl) (by kernel_rfl) (by kernel_rfl) rfl (fun _ _ _ h => h) (Or.inl ⟨by rfl, ?_⟩) hHeld (fun hHeld => ?_)
          · (intro w1 hSw; have hSw := hSw.1; (try dsimp only at hSw); go_simp)
          simp only [List.getElem_toArray, List.getElem_cons_succ, List.getElem_cons_zero, Act.put, List.setIfInBounds_toArray, List.set_cons_zero, List.set_cons_succ]
          refine wpAnyS_take (i := 8) (v := .pointer (some ⟨g, k * 7, none⟩)) _ rfl (by kernel_rfl) (by kernel_rfl) (by kernel_rfl) (by kernel_rfl) (by kernel_rfl) rfl (fun _ _ _ h => h) (Or.inl ⟨by rfl, ?_⟩) hHeld (fun hHeld => ?_)
          · (intro w1 hSw; have hSw := hSw.1; (try dsimp only at hSw); go_simp)
          simp only [List.getElem_toArray, List.getElem_cons_succ, List.getElem_cons_zero, Act.put, List.setIfInBounds_toArray, List.set_cons_zero, List.set_cons_succ]
          refine wpAnyS_take (i := 9) (v := .slice (some ⟨kg, 0, none⟩) KL kcp) _ rfl (by kernel_rfl) (by kernel_rfl) (by kernel_rfl) (by kernel_rfl) (by kernel_rfl) rfl (fun _ _ _ h => h) (Or.inl ⟨by rfl, ?_⟩) hHeld (fun hHeld => ?_)
          · (intro w1 hSw; have hSw := hSw.1; (try dsimp only at hSw); go_simp)
          simp only [List.getElem_toArray, List.getElem_cons_succ, List.getElem_cons_zero, Act.put, List.setIfInBounds_toArray, List.set_cons_zero, List.set_cons_succ]
          refine wpAnyS_take (i := 10) (v := .pointer (some ⟨kg, 0, none⟩)) _ rfl (by kernel_rfl) (by kernel_rfl) (by kernel_rfl) (by kernel_rfl) (by kernel_rfl) rfl (fun _ _ _ h => h) (Or.inl ⟨by rfl, ?_⟩) hHeld (fun hHeld => ?_)
          · (intro w1 hSw; have hSw := hSw.1; (try dsimp only at hSw); go_simp)
          simp only [List.getElem_toArray, List.getElem_cons_succ, List.getElem_cons_zero, Act.put, List.setIfInBounds_toArray, List.set_cons_zero, List.set_cons_succ]
          refine wpAnyS_take (i := 11) (v := .int .u8 (x0 : Int)) true rfl (by kernel_rfl) (by kernel_rfl) (by kernel_rfl) (by kernel_rfl) (by kernel_rfl) (by kernel_rfl) (fun _ _ _ h => h) (Or.inl ⟨by rfl, ?_⟩) hHeld (fun hHeld => ?_)
          · (intro w1 hSw; have hSw2 := hSw.2 rfl; have hSw := hSw.1; (try dsimp only at hSw hSw2); go_simp)
          simp only [List.getElem_toArray, List.getElem_cons_succ, List.getElem_cons_zero, Act.put, List.setIfInBounds_toArray, List.set_cons_zero, List.set_cons_succ]
          refine wpAnyS_take (i := 12) (v := .int .u8 (y.toNat : Int)) _ rfl (by kernel_rfl) (by kernel_rfl) (by kernel_rfl) (by kernel_rfl) (by kernel_rfl) rfl (fun _ _ _ h => h) (Or.inl ⟨by rfl, ?_⟩) hHeld (fun hHeld => ?_)
          · (intro w1 hSw; have hSw := hSw.1; (try dsimp only at hSw); go_simp)
          simp only [List.getElem_toArray, List.getElem_cons_succ, List.getElem_cons_zero, Act.put, List.setIfInBounds_toArray, List.set_cons_zero, List.set_cons_succ]
          refine wpAnyS_take (i := 13) (v := .pointer (some ⟨kg, 0, none⟩)) _ rfl (by kernel_rfl) (by kernel_rfl) (by kernel_rfl) (by kernel_rfl) (by kernel_rfl) rfl (fun _ _ _ h => h) (Or.inl ⟨by rfl, ?_⟩) hHeld (fun hHeld => ?_)
          · (intro w1 hSw; have hSw := hSw.1; (try dsimp only at hSw); go_simp)
          simp only [List.getElem_toArray, List.getElem_cons_succ, List.getElem_cons_zero, Act.put, List.setIfInBounds_toArray, List.set_cons_zero, List.set_cons_succ]
          refine wpAnyS_ready (i := 14) (by kernel_rfl) rfl (fun K hK => ?_)
          go_simp
          refine hK.out _ _ ⟨?_, fun hno => absurd hno (by decide)⟩ (fun hHeld => ?_)
          · exact HC0'.out
          clear hK K
          refine wpAnyS_done (by kernel_rfl) ?_ _
          refine NoPanic.normal ?_
          clear hfd hcd hHeld
          go_wp2_with fail
          go_roundw
          case rel => exact ⟨k + 1, by go_num, by omega, HAn, HFn, HZn, HBn⟩
          case measure => simp [intOf]; omega
        · have hlt' : ¬ (k : Int) < (N : Int) := by omega
          clear HA
          go_wp2_with fail
          go_loopw [19] (fun i wr => ∃ k : Nat, i = .int .i64 (k : Int) ∧ k ≤ ZL ∧ Hid (Hld wr w.heap.size (.slice af FL cf) FL) ∧ Hid (Hld wr w.heap.size (.slice az ZL cz) ZL) ∧ Hid (Below w.heap.size w wr)) (fun i _ => ZL - (intOf i).toNat)
          case atStart => exact ⟨0, rfl, by omega, HF, HZ, HB⟩
          case round =>
            rename World => wz
            obtain ⟨j, rfl, hj, HFr, HZr, HBr⟩ := hrel
            by_cases hjl : j < ZL
            · have hjl' : (j : Int) < (ZL : Int) := by omega
              obtain ⟨zg, zcp, xz, hzv, hzg, hzg2, _, hcz, hfz, _⟩ := HZr.out.cell hjl
              obtain ⟨fg, fcp, xf, hfv, hfg, hfg2, _, hcf, hff, _⟩ := (HFr.out.turn (g := zg) (i := j) 7).cell (HFZ.out (by omega))
              simp only [Value.slice.injEq] at hzv hfv
              obtain ⟨rfl, -, rfl⟩ := hzv
              obtain ⟨rfl, -, rfl⟩ := hfv
              have e77 : (((7 : UInt8).toNat : Nat) : Int) = 7 := rfl
              have hF0 : ¬ FL = 0 := by have := HFZ.out (by omega); omega
              have hF1 : 0 < FL := by omega
              have HFn : Hid (Hld ((wz.setCell ⟨zg, j, none⟩ (.int .u8 7)).setCell ⟨fg, 0, none⟩ (.int .u8 7)) w.heap.size (.slice (some ⟨fg, 0, none⟩) FL cf) FL) := by have := (HFr.out.turn (g := zg) (i := j) 7).turn (g := fg) (i := 0) 7; rw [e77] at this; exact this
              have HZn : Hid (Hld ((wz.setCell ⟨zg, j, none⟩ (.int .u8 7)).setCell ⟨fg, 0, none⟩ (.int .u8 7)) w.heap.size (.slice (some ⟨zg, 0, none⟩) ZL cz) ZL) := by have := (HZr.out.turn (g := zg) (i := j) 7).turn (g := fg) (i := 0) 7; rw [e77] at this; exact this
              have HBn : Hid (Below w.heap.size w ((wz.setCell ⟨zg, j, none⟩ (.int .u8 7)).setCell ⟨fg, 0, none⟩ (.int .u8 7))) := (HBr.out.trans ((Below.refl _ _).setCell hzg _)).trans ((Below.refl _ _).setCell hfg _)
              rw [e77] at hcf hff
              clear hzg hzg2 hfg hfg2 e77
              go_wp2_with fail
              go_roundw
              case rel => exact ⟨j + 1, by go_num, by omega, HFn, HZn, HBn⟩
              case measure => simp [intOf]; omega
            · have hjl' : ¬ (j : Int) < (ZL : Int) := by omega
              go_wp2_with fail
              go_ret
              exact ⟨rfl, HBr.out⟩
    · have HGo : Hid (gtT L key = none) := by unfold Hid; rw [HGo2.out, if_neg hxe]
      have hbe : (xk == key) = false := by simp [hxe]
      clear HGo2 hxe
      go_wp2_with fail
      go_quiet (fail)
      go_wp2_with fail
      have hbq : Below w1.heap.size w1 (w1.drewN nq) := below_drewN (Below.refl _ _) _
      obtain ⟨W1, HW1⟩ := hid_ex (w1.drewN nq)
      rw [← HW1.out] at hbq ⊢
      have HBq : Hid (Below w.heap.size w W1) := HB1.out.trans (hbq.mono HB1.out.size)
      have hG := tget_any (HTb.out.below HBq.out) _ key (HK.out.below HBq.out)
      rw [HGo.out] at hG
      have HG : Hid (Calls Try.prog 41 #[.pointer (some ⟨B, 0, none⟩), .slice kka KK kkc] W1 _) := hG
      clear HC1 HBb1 hq1 hq2 c0 HX1 hbe hxm
      clear hG hbq HW1 HB1 HGo
      refine HG.out.mono ?_
      clear HG
      rintro e w5 ⟨rfl, hb5, _⟩
      have HB5 : Hid (Below w.heap.size w w5) := HBq.out.trans (hb5.mono HBq.out.size)
      rw [show gtA none = aZ from rfl, agV_zero, show (none : Option Ag).isSome = false from rfl]
      have HOn : Hid (([.int .u64 0, .bool false, .int .i64 0, .int .u64 0, .int .i64 0, .int .i64 0] : List Value).toArray.all (·.oneCell') = true) := by unfold Hid; kernel_rfl
      clear hb5 HBq
      go_wp2_with (refine stop_store 41 _ _ rfl ?_)
      refine Stop.of ?_
      refine wpList_storeN rfl _ _ _ rfl w5.heap.size 0 [.int .u64 0, .bool false, .int .i64 0, .int .u64 0, .int .i64 0, .int .i64 0] rfl rfl _ _ (heap_alloc_new _ _) (by simp) (by kernel_rfl) HOn.out ?_
      intro w6 hw6
      obtain ⟨hb6, hx6, _⟩ := stW_nw hw6 (by simp)
      have HB6 : Hid (Below w.heap.size w w6.drew) := (HB5.out.trans (hb6.mono HB5.out.size)).drew
      have q0 := cell_rw hx6 0 (by simp)
      have q1 := cell_rw hx6 1 (by simp)
      have q2 := cell_rw hx6 2 (by simp)
      have q3 := cell_rw hx6 3 (by simp)
      have q4 := cell_rw hx6 4 (by simp)
      have q5 := cell_rw hx6 5 (by simp)
      simp only [List.getElem_toArray, List.getElem_cons_succ, List.getElem_cons_zero] at q0 q1 q2 q3 q4 q5
      have HCs : Hid (w5.heap.size < w6.drew.heap.size ∧ ∀ i (hj : i < 6), w6.drew.cell? ⟨w5.heap.size, i, none⟩ = some (([.int .u64 0, .bool false, .int .i64 0, .int .u64 0, .int .i64 0, .int .i64 0] : List Value)[i]'hj)) := ⟨(Array.getElem?_eq_some_iff.1 hx6).1, fun i hj => by
        match i, hj with
        | 0, _ => exact q0
        | 1, _ => exact q1
        | 2, _ => exact q2
        | 3, _ => exact q3
        | 4, _ => exact q4
        | 5, _ => exact q5⟩
      have HT6 : Hid (Tb w6.drew lw B L) := HTb.out.below HB6.out
      have hLn := tlen_any HT6.out
      rw [HN.out] at hLn
      have HLn : Hid (Calls Try.prog 13 #[.pointer (some ⟨B, 0, none⟩)] w6.drew _) := hLn
      have hMy := tmay_any HT6.out _ key (HK.out.below HB6.out)
      obtain ⟨MY, HMY⟩ := hid_ex (tmyF L key)
      rw [← HMY.out] at hMy
      have HMy : Hid (Calls Try.prog 14 #[.pointer (some ⟨B, 0, none⟩), .slice kka KK kkc] w6.drew _) := hMy
      obtain ⟨W5, HW5⟩ := hid_ex w5.heap.size
      rw [← HW5.out] at HCs ⊢
      clear hLn hMy q0 q1 q2 q3 q4 q5 hx6 hw6 hb6 HB5 HOn HW5
      go_wp2_with fail
      refine wp_region_noPanic ?_
      refine wp_region_held_drew (S := fun w' => Below w6.drew.heap.size w6.drew w') (by kernel_rfl) ?_ (fun hHeld => ?_)
      · exact Below.refl _ _
      refine wpAnyH_take (i := 0) (v := .bool false) rfl (by kernel_rfl) (by kernel_rfl) (by kernel_rfl) (fun _ _ _ h => h) (Or.inl ⟨by rfl, ?_⟩) (by assumption) ?_
      · (intro w1 hSw; (try dsimp only at hSw); go_simp)
      simp only [List.getElem_toArray, List.getElem_cons_zero, Act.put, List.setIfInBounds_toArray, List.set_cons_zero, List.set_cons_succ]
      refine wpAnyH_take (i := 1) (v := .bool false) rfl (by kernel_rfl) (by kernel_rfl) (by kernel_rfl) (fun _ _ _ h => h) (Or.inl ⟨by rfl, ?_⟩) (by assumption) ?_
      · (intro w1 hSw; (try dsimp only at hSw); go_simp)
      simp only [List.getElem_toArray, List.getElem_cons_succ, List.getElem_cons_zero, Act.put, List.setIfInBounds_toArray, List.set_cons_zero, List.set_cons_succ]
      refine wpAnyH_take (i := 2) (v := .bool false) rfl (by kernel_rfl) (by kernel_rfl) (by kernel_rfl) (fun _ _ _ h => h) (Or.inl ⟨by rfl, ?_⟩) (by assumption) ?_
      · (intro w1 hSw; (try dsimp only at hSw); go_simp)
      simp only [List.getElem_toArray, List.getElem_cons_succ, List.getElem_cons_zero, Act.put, List.setIfInBounds_toArray, List.set_cons_zero, List.set_cons_succ]
      refine wpAnyH_take (i := 3) (v := .bool false) rfl (by kernel_rfl) (by kernel_rfl) (by kernel_rfl) (fun _ _ _ h => h) (Or.inl ⟨by rfl, ?_⟩) (by assumption) ?_
      · (intro w1 hSw; (try dsimp only at hSw); go_simp)
      simp only [List.getElem_toArray, List.getElem_cons_succ, List.getElem_cons_zero, Act.put, List.setIfInBounds_toArray, List.set_cons_zero, List.set_cons_succ]
      refine wpAnyH_take (i := 4) (v := .bool false) rfl (by kernel_rfl) (by kernel_rfl) (by kernel_rfl) (fun _ _ _ h => h) (Or.inl ⟨by rfl, ?_⟩) (by assumption) ?_
      · (intro w1 hSw; (try dsimp only at hSw); go_simp)
      simp only [List.getElem_toArray, List.getElem_cons_succ, List.getElem_cons_zero, Act.put, List.setIfInBounds_toArray, List.set_cons_zero, List.set_cons_succ]
      refine wpAnyH_take (i := 5) (v := .bool false) rfl (by kernel_rfl) (by kernel_rfl) (by kernel_rfl) (fun _ _ _ h => h) (Or.inl ⟨by rfl, ?_⟩) (by assumption) ?_
      · (intro w1 hSw; (try dsimp only at hSw); go_simp)
      simp only [List.getElem_toArray, List.getElem_cons_succ, List.getElem_cons_zero, Act.put, List.setIfInBounds_toArray, List.set_cons_zero, List.set_cons_succ]
      refine wpAnyH_take (i := 6) (v := undef) rfl (by kernel_rfl) (by kernel_rfl) (by kernel_rfl) (fun _ _ _ h => h) (Or.inr ⟨by rfl, rfl⟩) (by assumption) ?_
      simp only [List.getElem_toArray, List.getElem_cons_succ, List.getElem_cons_zero, Act.put, List.setIfInBounds_toArray, List.set_cons_zero, List.set_cons_succ]
      refine wpAnyH_take (i := 7) (v := undef) rfl (by kernel_rfl) (by kernel_rfl) (by kernel_rfl) (fun _ _ _ h => h) (Or.inr ⟨by rfl, rfl⟩) (by assumption) ?_
      simp only [List.getElem_toArray, List.getElem_cons_succ, List.getElem_cons_zero, Act.put, List.setIfInBounds_toArray, List.set_cons_zero, List.set_cons_succ]
      refine wpAnyH_take (i := 8) (v := undef) rfl (by kernel_rfl) (by kernel_rfl) (by kernel_rfl) (fun _ _ _ h => h) (Or.inr ⟨by rfl, rfl⟩) (by assumption) ?_
      simp only [List.getElem_toArray, List.getElem_cons_succ, List.getElem_cons_zero, Act.put, List.setIfInBounds_toArray, List.set_cons_zero, List.set_cons_succ]
      refine wpAnyH_take (i := 9) (v := undef) rfl (by kernel_rfl) (by kernel_rfl) (by kernel_rfl) (fun _ _ _ h => h) (Or.inr ⟨by rfl, rfl⟩) (by assumption) ?_
      simp only [List.getElem_toArray, List.getElem_cons_succ, List.getElem_cons_zero, Act.put, List.setIfInBounds_toArray, List.set_cons_zero, List.set_cons_succ]
      refine wpAnyH_take (i := 10) (v := undef) rfl (by kernel_rfl) (by kernel_rfl) (by kernel_rfl) (fun _ _ _ h => h) (Or.inr ⟨by rfl, rfl⟩) (by assumption) ?_
      simp only [List.getElem_toArray, List.getElem_cons_succ, List.getElem_cons_zero, Act.put, List.setIfInBounds_toArray, List.set_cons_zero, List.set_cons_succ]
      refine wpAnyH_take (i := 11) (v := undef) rfl (by kernel_rfl) (by kernel_rfl) (by kernel_rfl) (fun _ _ _ h => h) (Or.inr ⟨by rfl, rfl⟩) (by assumption) ?_
      simp only [List.getElem_toArray, List.getElem_cons_succ, List.getElem_cons_zero, Act.put, List.setIfInBounds_toArray, List.set_cons_zero, List.set_cons_succ]
      refine wpAnyH_take (i := 12) (v := .bool false) rfl (by kernel_rfl) (by kernel_rfl) (by kernel_rfl) (fun _ _ _ h => h) (Or.inl ⟨by rfl, ?_⟩) (by assumption) ?_
      · (intro w1 hSw; (try dsimp only at hSw); go_simp)
      simp only [List.getElem_toArray, List.getElem_cons_succ, List.getElem_cons_zero, Act.put, List.setIfInBounds_toArray, List.set_cons_zero, List.set_cons_succ]
      refine wpAnyH_take (i := 13) (v := .bool false) rfl (by kernel_rfl) (by kernel_rfl) (by kernel_rfl) (fun _ _ _ h => h) (Or.inl ⟨by rfl, ?_⟩) (by assumption) ?_
      · (intro w1 hSw; (try dsimp only at hSw); go_simp)
      simp only [List.getElem_toArray, List.getElem_cons_succ, List.getElem_cons_zero, Act.put, List.setIfInBounds_toArray, List.set_cons_zero, List.set_cons_succ]
      refine wpAnyH_take (i := 14) (v := .bool false) rfl (by kernel_rfl) (by kernel_rfl) (by kernel_rfl) (fun _ _ _ h => h) (Or.inl ⟨by rfl, ?_⟩) (by assumption) ?_
      · (intro w1 hSw; (try dsimp only at hSw); go_simp)
      simp only [List.getElem_toArray, List.getElem_cons_succ, List.getElem_cons_zero, Act.put, List.setIfInBounds_toArray, List.set_cons_zero, List.set_cons_succ]
      refine wpAnyH_take (i := 15) (v := .bool false) rfl (by kernel_rfl) (by kernel_rfl) (by kernel_rfl) (fun _ _ _ h => h) (Or.inl ⟨by rfl, ?_⟩) (by assumption) ?_
      · (intro w1 hSw; (try dsimp only at hSw); go_simp)
      simp only [List.getElem_toArray, List.getElem_cons_succ, List.getElem_cons_zero, Act.put, List.setIfInBounds_toArray, List.set_cons_zero, List.set_cons_succ]
      refine wpAnyH_take (i := 16) (v := .bool true) rfl (by kernel_rfl) (by kernel_rfl) (by kernel_rfl) (fun _ _ _ h => h) (Or.inl ⟨by rfl, ?_⟩) (by assumption) ?_
      · (intro w1 hSw; (try dsimp only at hSw); go_simp)
      simp only [List.getElem_toArray, List.getElem_cons_succ, List.getElem_cons_zero, Act.put, List.setIfInBounds_toArray, List.set_cons_zero, List.set_cons_succ]
      refine wpAnyH_take (i := 17) (v := .bool true) rfl (by kernel_rfl) (by kernel_rfl) (by kernel_rfl) (fun _ _ _ h => h) (Or.inl ⟨by rfl, ?_⟩) (by assumption) ?_
      · (intro w1 hSw; (try dsimp only at hSw); go_simp)
      simp only [List.getElem_toArray, List.getElem_cons_succ, List.getElem_cons_zero, Act.put, List.setIfInBounds_toArray, List.set_cons_zero, List.set_cons_succ]
      refine wpAnyH_take (i := 18) (v := .agg #[.int .u64 0, .bool false, .int .i64 0, .int .u64 0, .int .i64 0, .int .i64 0]) rfl (by kernel_rfl) (by kernel_rfl) (by kernel_rfl) (fun _ _ _ h => h) (Or.inl ⟨by rfl, ?_⟩) (by assumption) ?_
      · (intro w1 hSw; (try dsimp only at hSw); have h0 := (hSw.cell (p := ⟨W5, 0, none⟩) HCs.out.1).trans (HCs.out.2 0 (by decide)); have h1 := (hSw.cell (p := ⟨W5, 1, none⟩) HCs.out.1).trans (HCs.out.2 1 (by decide)); have h2 := (hSw.cell (p := ⟨W5, 2, none⟩) HCs.out.1).trans (HCs.out.2 2 (by decide)); have h3 := (hSw.cell (p := ⟨W5, 3, none⟩) HCs.out.1).trans (HCs.out.2 3 (by decide)); have h4 := (hSw.cell (p := ⟨W5, 4, none⟩) HCs.out.1).trans (HCs.out.2 4 (by decide)); have h5 := (hSw.cell (p := ⟨W5, 5, none⟩) HCs.out.1).trans (HCs.out.2 5 (by decide)); simp only [List.getElem_cons_succ, List.getElem_cons_zero] at h0 h1 h2 h3 h4 h5; go_simp)
      simp only [List.getElem_toArray, List.getElem_cons_succ, List.getElem_cons_zero, Act.put, List.setIfInBounds_toArray, List.set_cons_zero, List.set_cons_succ]
      refine wpAnyH_take (i := 19) (v := .agg #[.int .u64 0, .bool false, .int .i64 0, .int .u64 0, .int .i64 0, .int .i64 0]) rfl (by kernel_rfl) (by kernel_rfl) (by kernel_rfl) (fun _ _ _ h => h) (Or.inl ⟨by rfl, ?_⟩) (by assumption) ?_
      · (intro w1 hSw; (try dsimp only at hSw); go_simp)
      simp only [List.getElem_toArray, List.getElem_cons_succ, List.getElem_cons_zero, Act.put, List.setIfInBounds_toArray, List.set_cons_zero, List.set_cons_succ]
      refine wpAnyH_take (i := 20) (v := .bool false) rfl (by kernel_rfl) (by kernel_rfl) (by kernel_rfl) (fun _ _ _ h => h) (Or.inl ⟨by rfl, ?_⟩) (by assumption) ?_
      · (intro w1 hSw; (try dsimp only at hSw); go_simp)
      simp only [List.getElem_toArray, List.getElem_cons_succ, List.getElem_cons_zero, Act.put, List.setIfInBounds_toArray, List.set_cons_zero, List.set_cons_succ]
      refine wpAnyH_take (i := 21) (v := .bool false) rfl (by kernel_rfl) (by kernel_rfl) (by kernel_rfl) (fun _ _ _ h => h) (Or.inl ⟨by rfl, ?_⟩) (by assumption) ?_
      · (intro w1 hSw; (try dsimp only at hSw); go_simp)
      simp only [List.getElem_toArray, List.getElem_cons_succ, List.getElem_cons_zero, Act.put, List.setIfInBounds_toArray, List.set_cons_zero, List.set_cons_succ]
      refine wpAnyH_take (i := 22) (v := .bool false) rfl (by kernel_rfl) (by kernel_rfl) (by kernel_rfl) (fun _ _ _ h => h) (Or.inl ⟨by rfl, ?_⟩) (by assumption) ?_
      · (intro w1 hSw; (try dsimp only at hSw); go_simp)
      simp only [List.getElem_toArray, List.getElem_cons_succ, List.getElem_cons_zero, Act.put, List.setIfInBounds_toArray, List.set_cons_zero, List.set_cons_succ]
      refine wpAnyH_take (i := 23) (v := .bool false) rfl (by kernel_rfl) (by kernel_rfl) (by kernel_rfl) (fun _ _ _ h => h) (Or.inl ⟨by rfl, ?_⟩) (by assumption) ?_
      · (intro w1 hSw; (try dsimp only at hSw); go_simp)
      simp only [List.getElem_toArray, List.getElem_cons_succ, List.getElem_cons_zero, Act.put, List.setIfInBounds_toArray, List.set_cons_zero, List.set_cons_succ]
      refine wpAnyH_take (i := 24) (v := .pointer (some ⟨B, 0, none⟩)) rfl (by kernel_rfl) (by kernel_rfl) (by kernel_rfl) (fun _ _ _ h => h) (Or.inl ⟨by rfl, ?_⟩) (by assumption) ?_
      · (intro w1 hSw; (try dsimp only at hSw); go_simp)
      simp only [List.getElem_toArray, List.getElem_cons_succ, List.getElem_cons_zero, Act.put, List.setIfInBounds_toArray, List.set_cons_zero, List.set_cons_succ]
      refine wpAnyH_take (i := 26) (v := .slice a N cap) rfl (by kernel_rfl) (by kernel_rfl) (by kernel_rfl) (fun _ _ _ h => h) (Or.inl ⟨by rfl, ?_⟩) (by assumption) ?_
      · (intro w1 hSw; (try dsimp only at hSw); go_simp)
      simp only [List.getElem_toArray, List.getElem_cons_succ, List.getElem_cons_zero, Act.put, List.setIfInBounds_toArray, List.set_cons_zero, List.set_cons_succ]
      refine wpAnyH_take (i := 27) (v := .int .i64 (N : Int)) rfl (by kernel_rfl) (by kernel_rfl) (by kernel_rfl) (fun _ _ _ h => h) (Or.inl ⟨by rfl, ?_⟩) (by assumption) ?_
      · (intro w1 hSw; (try dsimp only at hSw); go_simp)
      simp only [List.getElem_toArray, List.getElem_cons_succ, List.getElem_cons_zero, Act.put, List.setIfInBounds_toArray, List.set_cons_zero, List.set_cons_succ]
      refine wpAnyH_ready (rs := [25]) (by kernel_rfl) (by simp) ?_
      refine AllReadyH.cons (o := _) rfl (fun K hK => ?_) AllReadyH.nil
      go_simp
      refine HLn.out.mono ?_
      clear HLn
      rintro e w6' ⟨rfl, rfl⟩
      go_simp
      refine hK.out _ _ ?_ (fun hHeld => ?_)
      · exact Below.refl _ _
      clear hK K
      refine wpAnyH_take (i := 28) (v := .bool false) rfl (by kernel_rfl) (by kernel_rfl) (by kernel_rfl) (fun _ _ _ h => h) (Or.inl ⟨by rfl, ?_⟩) (by assumption) ?_
      · (intro w1 hSw; (try dsimp only at hSw); go_simp)
      simp only [List.getElem_toArray, List.getElem_cons_succ, List.getElem_cons_zero, Act.put, List.setIfInBounds_toArray, List.set_cons_zero, List.set_cons_succ]
      refine wpAnyH_take (i := 29) (v := .bool false) rfl (by kernel_rfl) (by kernel_rfl) (by kernel_rfl) (fun _ _ _ h => h) (Or.inl ⟨by rfl, ?_⟩) (by assumption) ?_
      · (intro w1 hSw; (try dsimp only at hSw); go_simp)
      simp only [List.getElem_toArray, List.getElem_cons_succ, List.getElem_cons_zero, Act.put, List.setIfInBounds_toArray, List.set_cons_zero, List.set_cons_succ]
      refine wpAnyH_take (i := 30) (v := .bool false) rfl (by kernel_rfl) (by kernel_rfl) (by kernel_rfl) (fun _ _ _ h => h) (Or.inl ⟨by rfl, ?_⟩) (by assumption) ?_
      · (intro w1 hSw; (try dsimp only at hSw); go_simp)
      simp only [List.getElem_toArray, List.getElem_cons_succ, List.getElem_cons_zero, Act.put, List.setIfInBounds_toArray, List.set_cons_zero, List.set_cons_succ]
      refine wpAnyH_take (i := 31) (v := .pointer (some ⟨B, 0, none⟩)) rfl (by kernel_rfl) (by kernel_rfl) (by kernel_rfl) (fun _ _ _ h => h) (Or.inl ⟨by rfl, ?_⟩) (by assumption) ?_
      · (intro w1 hSw; (try dsimp only at hSw); go_simp)
      simp only [List.getElem_toArray, List.getElem_cons_succ, List.getElem_cons_zero, Act.put, List.setIfInBounds_toArray, List.set_cons_zero, List.set_cons_succ]
      refine wpAnyH_take (i := 32) (v := .slice kka KK kkc) rfl (by kernel_rfl) (by kernel_rfl) (by kernel_rfl) (fun _ _ _ h => h) (Or.inl ⟨by rfl, ?_⟩) (by assumption) ?_
      · (intro w1 hSw; (try dsimp only at hSw); go_simp)
      simp only [List.getElem_toArray, List.getElem_cons_succ, List.getElem_cons_zero, Act.put, List.setIfInBounds_toArray, List.set_cons_zero, List.set_cons_succ]
      refine wpAnyH_take (i := 34) (v := .slice a N cap) rfl (by kernel_rfl) (by kernel_rfl) (by kernel_rfl) (fun _ _ _ h => h) (Or.inl ⟨by rfl, ?_⟩) (by assumption) ?_
      · (intro w1 hSw; (try dsimp only at hSw); go_simp)
      simp only [List.getElem_toArray, List.getElem_cons_succ, List.getElem_cons_zero, Act.put, List.setIfInBounds_toArray, List.set_cons_zero, List.set_cons_succ]
      refine wpAnyH_take (i := 35) (v := .slice kka KK kkc) rfl (by kernel_rfl) (by kernel_rfl) (by kernel_rfl) (fun _ _ _ h => h) (Or.inl ⟨by rfl, ?_⟩) (by assumption) ?_
      · (intro w1 hSw; (try dsimp only at hSw); go_simp)
      simp only [List.getElem_toArray, List.getElem_cons_succ, List.getElem_cons_zero, Act.put, List.setIfInBounds_toArray, List.set_cons_zero, List.set_cons_succ]
      refine wpAnyH_ready (rs := [33]) (by kernel_rfl) (by simp) ?_
      refine AllReadyH.cons (o := _) rfl (fun K hK => ?_) AllReadyH.nil
      go_simp
      refine HMy.out.mono ?_
      clear HMy
      rintro e w7 ⟨rfl, hb7⟩
      go_simp
      refine hK.out _ _ ?_ (fun hHeld => ?_)
      · exact hb7
      clear hK K
      have hrm := refMay10_any _ _ L key w7 (HR.out.below (HB6.out.trans (hb7.mono HB6.out.size))) (HK.out.below (HB6.out.trans (hb7.mono HB6.out.size))) (by have := HKB.out; omega) HOk.out
      rw [← HMY.out] at hrm
      have HRm : Hid (Calls Try.prog 42 #[.slice a N cap, .slice kka KK kkc] w7 _) := hrm
      clear hrm
      refine wpAnyH_ready (rs := [36]) (by kernel_rfl) (by simp) ?_
      refine AllReadyH.cons (o := _) rfl (fun K hK => ?_) AllReadyH.nil
      go_simp
      refine HRm.out.mono ?_
      clear HRm
      rintro e w8 ⟨rfl, hb8⟩
      go_simp
      refine hK.out _ _ ?_ (fun hHeld => ?_)
      · exact hb7.trans (hb8.mono hb7.size)
      clear hK K
      refine wpAnyH_take (i := 37) (v := .bool false) rfl (by kernel_rfl) (by kernel_rfl) (by kernel_rfl) (fun _ _ _ h => h) (Or.inl ⟨by rfl, ?_⟩) (by assumption) ?_
      · (intro w1 hSw; (try dsimp only at hSw); go_simp)
      simp only [List.getElem_toArray, List.getElem_cons_succ, List.getElem_cons_zero, Act.put, List.setIfInBounds_toArray, List.set_cons_zero, List.set_cons_succ]
      refine wpAnyH_take (i := 38) (v := .bool false) rfl (by kernel_rfl) (by kernel_rfl) (by kernel_rfl) (fun _ _ _ h => h) (Or.inl ⟨by rfl, ?_⟩) (by assumption) ?_
      · (intro w1 hSw; (try dsimp only at hSw); go_simp)
      simp only [List.getElem_toArray, List.getElem_cons_succ, List.getElem_cons_zero, Act.put, List.setIfInBounds_toArray, List.set_cons_zero, List.set_cons_succ]
      refine wpAnyH_done (by kernel_rfl) ?_ _
      refine NoPanic.normal ?_
      have HB8 : Hid (Below w.heap.size w w8) := HB6.out.trans ((hb7.trans (hb8.mono hb7.size)).mono HB6.out.size)
      have HT8 : Hid (Tb w8 lw B L) := HTb.out.below HB8.out
      clear hb7 hb8 hHeld HT6 HMY HCs HB6
      go_wp2_with fail
      refine (tall_any HT8.out).mono ?_
      rintro e w9 ⟨v9, xs, rfl, hxs, hto9, hb9⟩
      have HB9 : Hid (Below w.heap.size w w9) := HB8.out.trans (hb9.mono HB8.out.size)
      have HT9 : Hid (Tb w9 lw B L) := HTb.out.below HB9.out
      have HXs : Hid (xs.map Ee.e = L) := hxs
      have HXl : Hid (xs.length = N) := by unfold Hid; rw [← HN.out, ← hxs, List.length_map]
      obtain ⟨a9, c9, hv9, _⟩ := hto9.form
      rw [HXl.out] at hv9
      subst hv9
      have HA9 : Hid (TOwn w9 w.heap.size (.slice a9 N c9) xs) := hto9.mono HB8.out.size
      clear hxs hto9 hb9 HT8 HB8
      have HSe : Hid (Calls Try.prog 44 #[.pointer (some ⟨B, 0, none⟩), .slice kka KK kkc, .int .i64 m] w9 _) := tseekI_any HT9.out _ key (HK.out.below HB9.out) m HM.out
      go_wp2_with fail
      refine HSe.out.mono ?_
      clear HSe
      rintro e w10 ⟨v10, ys, rfl, hys, hto10, hb10⟩
      have HB10 : Hid (Below w.heap.size w w10) := HB9.out.trans (hb10.mono HB9.out.size)
      have HT10 : Hid (Tb w10 lw B L) := HTb.out.below HB10.out
      have HYs : Hid (ys.map Ee.e = skI L key m) := hys
      obtain ⟨YL, HYl⟩ : ∃ n, Hid (ys.length = n) := ⟨_, rfl⟩
      obtain ⟨a10, c10, hv10, _⟩ := hto10.form
      rw [HYl.out] at hv10
      subst hv10
      have HA10 : Hid (TOwn w10 w.heap.size (.slice a9 N c9) xs) := HA9.out.below hb10
      have HY10 : Hid (TOwn w10 w9.heap.size (.slice a10 YL c10) ys) := hto10
      clear hys hto10 hb10 HT9 HA9
      go_wp2_with fail
      refine (tends_any HT10.out).mono ?_
      rintro e w11 ⟨fv, zv, rfl, hof, hoz, hb11⟩
      have HB11 : Hid (Below w.heap.size w w11) := HB10.out.trans (hb11.mono HB10.out.size)
      have HBd : Hid (Below w.heap.size w w11.drew) := HB11.out.drew
      have HA11 : Hid (TOwn w11 w.heap.size (.slice a9 N c9) xs) := HA10.out.below hb11
      have hdd : Below w11.heap.size w11 w11.drew := (Below.refl _ _).drew
      have hta := HA11.out.reads
      rw [HXs.out] at hta
      have HTA : Hid (TRd w11.drew (.slice a9 N c9) L) := hta.below hdd
      have hty := (HY10.out.below hb11).reads
      rw [HYs.out] at hty
      have HTY : Hid (TRd w11.drew (.slice a10 YL c10) (skI L key m)) := hty.below hdd
      obtain ⟨FL, HFL⟩ : ∃ n, Hid ((keyF L).length = n) := ⟨_, rfl⟩
      obtain ⟨ZL, HZL⟩ : ∃ n, Hid ((keyZ L).length = n) := ⟨_, rfl⟩
      obtain ⟨af, cf, hfv, _⟩ := hof.form
      obtain ⟨az, cz, hzv, _⟩ := hoz.form
      rw [HFL.out] at hfv
      rw [HZL.out] at hzv
      subst hfv
      subst hzv
      have HOf : Hid (Own w11.drew w10.heap.size (.slice af FL cf) (keyF L)) := hof.below hdd
      have HOz : Hid (Own w11.drew w10.heap.size (.slice az ZL cz) (keyZ L)) := hoz.below hdd
      have HSm1 : Hid (Calls Try.prog 46 #[.slice a9 N c9, .slice a N cap] w11.drew _) := same10_true _ _ L w11.drew HTA.out (HR.out.below HBd.out)
      clear hta hty hof hoz hb11 hdd HT10 HA10 HY10 HTA HXl
      rw [show decide (0 < L.length) = true from by rw [HN.out]; exact decide_eq_true hNp]
      obtain ⟨Q, HQ⟩ : ∃ q, Hid (N - 1 = q) := ⟨_, rfl⟩
      have hQN : Q < L.length := by rw [HN.out, ← HQ.out]; omega
      have hL0 : 0 < L.length := by rw [HN.out]; exact hNp
      obtain ⟨b2, off2, kf, he2, hbw2, hcs2, hrf, hag2⟩ := HR.out.at (j := 0) hL0 rfl
      subst he2
      obtain ⟨b3, off3, kz, he3, hbw3, hcs3, hrz, hag3⟩ := HR.out.at (j := Q) hQN rfl
      simp only [Option.some.injEq, Addr.mk.injEq, and_true] at he3
      obtain ⟨rfl, rfl⟩ := he3
      rw [← keyF_of hL0] at hrf
      rw [show (L[Q]'hQN).1 = keyZ L from by rw [keyZ_of (by omega)]; congr 2; rw [HN.out, HQ.out]] at hrz
      have cF := hcs2 0 (by decide)
      have cZ := hcs3 0 (by decide)
      simp only [e7, List.getElem_cons_zero, Nat.add_zero, Nat.zero_mul] at cF cZ
      obtain ⟨fa, fc, hkf, _⟩ := hrf.form
      obtain ⟨za, zc, hkz, _⟩ := hrz.form
      rw [HFL.out] at hkf
      rw [HZL.out] at hkz
      subst hkf
      subst hkz
      have HCF : Hid (b2 < w11.drew.heap.size ∧ w11.drew.cell? ⟨b2, off2, none⟩ = some (.slice fa FL fc) ∧ w11.drew.cell? ⟨b2, off2 + Q * 7, none⟩ = some (.slice za ZL zc)) := ⟨Nat.lt_of_lt_of_le hbw2 HBd.out.size, (HBd.out.cell (p := ⟨b2, off2, none⟩) hbw2).trans cF, (HBd.out.cell (p := ⟨b2, off2 + Q * 7, none⟩) hbw2).trans cZ⟩
      obtain ⟨FK, HFK⟩ := hid_ex (keyF L)
      obtain ⟨ZK, HZK⟩ := hid_ex (keyZ L)
      rw [← HFK.out] at hrf
      rw [← HZK.out] at hrz
      have HRF : Hid (Reads w11.drew (.slice fa FL fc) FK) := hrf.below HBd.out
      have HRZ : Hid (Reads w11.drew (.slice za ZL zc) ZK) := hrz.below HBd.out
      have HRf : Hid (Reads w11.drew (.slice af FL cf) FK) := by rw [HFK.out]; exact HOf.out.reads
      have HRz : Hid (Reads w11.drew (.slice az ZL cz) ZK) := by rw [HZK.out]; exact HOz.out.reads
      have hQs : (N : Int) - 1 = (Q : Int) := by have := HQ.out; omega
      have hQw : IntKind.i64.wrap (Q : Int) = (Q : Int) := by have := HQ.out; simp [IntKind.wrap, IntKind.bits, IntKind.signed]; omega
      have hQN2 : Q < N := by have := HQ.out; omega
      have hQN3 : ¬ N ≤ Q := by omega
      have hN0' : ¬ N = 0 := by omega
      clear hrf hrz cF cZ hag2 hag3 hcs2 hcs3 hbw2 hbw3 HFK HZK hQN hL0
      go_wp2_with fail
      refine wp_region_noPanic ?_
      refine wp_region_held_drew (S := fun w' => Below w11.drew.heap.size w11.drew w') (by kernel_rfl) ?_ (fun hHeld => ?_)
      · exact Below.refl _ _
      refine wpAnyH_take (i := 0) (v := .slice a9 N c9) rfl (by kernel_rfl) (by kernel_rfl) (by kernel_rfl) (fun _ _ _ h => h) (Or.inl ⟨by rfl, ?_⟩) (by assumption) ?_
      · (intro w1 hSw; (try dsimp only at hSw); go_simp)
      simp only [List.getElem_toArray, List.getElem_cons_zero, Act.put, List.setIfInBounds_toArray, List.set_cons_zero, List.set_cons_succ]
      refine wpAnyH_take (i := 1) (v := .slice (some ⟨b2, off2, none⟩) N cap) rfl (by kernel_rfl) (by kernel_rfl) (by kernel_rfl) (fun _ _ _ h => h) (Or.inl ⟨by rfl, ?_⟩) (by assumption) ?_
      · (intro w1 hSw; (try dsimp only at hSw); go_simp)
      simp only [List.getElem_toArray, List.getElem_cons_succ, List.getElem_cons_zero, Act.put, List.setIfInBounds_toArray, List.set_cons_zero, List.set_cons_succ]
      refine wpAnyH_ready (rs := [2]) (by kernel_rfl) (by simp) ?_
      refine AllReadyH.cons (o := _) rfl (fun K hK => ?_) AllReadyH.nil
      go_simp
      refine HSm1.out.mono ?_
      clear HSm1
      rintro e w12 ⟨rfl, hb12⟩
      go_simp
      refine hK.out _ _ ?_ (fun hHeld => ?_)
      · exact hb12
      clear hK K
      refine wpAnyH_take (i := 3) (v := .bool false) rfl (by kernel_rfl) (by kernel_rfl) (by kernel_rfl) (fun _ _ _ h => h) (Or.inl ⟨by rfl, ?_⟩) (by assumption) ?_
      · (intro w1 hSw; (try dsimp only at hSw); go_simp)
      simp only [List.getElem_toArray, List.getElem_cons_succ, List.getElem_cons_zero, Act.put, List.setIfInBounds_toArray, List.set_cons_zero, List.set_cons_succ]
      refine wpAnyH_take (i := 4) (v := .bool false) rfl (by kernel_rfl) (by kernel_rfl) (by kernel_rfl) (fun _ _ _ h => h) (Or.inl ⟨by rfl, ?_⟩) (by assumption) ?_
      · (intro w1 hSw; (try dsimp only at hSw); go_simp)
      simp only [List.getElem_toArray, List.getElem_cons_succ, List.getElem_cons_zero, Act.put, List.setIfInBounds_toArray, List.set_cons_zero, List.set_cons_succ]
      refine wpAnyH_take (i := 5) (v := .slice a10 YL c10) rfl (by kernel_rfl) (by kernel_rfl) (by kernel_rfl) (fun _ _ _ h => h) (Or.inl ⟨by rfl, ?_⟩) (by assumption) ?_
      · (intro w1 hSw; (try dsimp only at hSw); go_simp)
      simp only [List.getElem_toArray, List.getElem_cons_succ, List.getElem_cons_zero, Act.put, List.setIfInBounds_toArray, List.set_cons_zero, List.set_cons_succ]
      refine wpAnyH_take (i := 6) (v := .slice (some ⟨b2, off2, none⟩) N cap) rfl (by kernel_rfl) (by kernel_rfl) (by kernel_rfl) (fun _ _ _ h => h) (Or.inl ⟨by rfl, ?_⟩) (by assumption) ?_
      · (intro w1 hSw; (try dsimp only at hSw); go_simp)
      simp only [List.getElem_toArray, List.getElem_cons_succ, List.getElem_cons_zero, Act.put, List.setIfInBounds_toArray, List.set_cons_zero, List.set_cons_succ]
      refine wpAnyH_take (i := 7) (v := .slice kka KK kkc) rfl (by kernel_rfl) (by kernel_rfl) (by kernel_rfl) (fun _ _ _ h => h) (Or.inl ⟨by rfl, ?_⟩) (by assumption) ?_
      · (intro w1 hSw; (try dsimp only at hSw); go_simp)
      simp only [List.getElem_toArray, List.getElem_cons_succ, List.getElem_cons_zero, Act.put, List.setIfInBounds_toArray, List.set_cons_zero, List.set_cons_succ]
      refine wpAnyH_take (i := 8) (v := .int .i64 m) rfl (by kernel_rfl) (by kernel_rfl) (by kernel_rfl) (fun _ _ _ h => h) (Or.inl ⟨by rfl, ?_⟩) (by assumption) ?_
      · (intro w1 hSw; (try dsimp only at hSw); go_simp)
      simp only [List.getElem_toArray, List.getElem_cons_succ, List.getElem_cons_zero, Act.put, List.setIfInBounds_toArray, List.set_cons_zero, List.set_cons_succ]
      have HB12 : Hid (Below w.heap.size w w12) := HBd.out.trans (hb12.mono HBd.out.size)
      have HRs : Hid (Calls Try.prog 40 #[.slice (some ⟨b2, off2, none⟩) N cap, .slice kka KK kkc, .int .i64 m] w12 _) := refSeek10_any _ _ L key m w12 (HR.out.below HB12.out) (HK.out.below HB12.out) (by rw [HN.out]; omega)
      refine wpAnyH_ready (rs := [9]) (by kernel_rfl) (by simp) ?_
      refine AllReadyH.cons (o := _) rfl (fun K hK => ?_) AllReadyH.nil
      go_simp
      refine HRs.out.mono ?_
      clear HRs
      rintro e w13 ⟨v13, rfl, hs13, hb13⟩
      go_simp
      refine hK.out _ _ ?_ (fun hHeld => ?_)
      · exact hb12.trans (hb13.mono hb12.size)
      clear hK K
      have hsm2 := same10_true _ v13 _ w13 ((HTY.out.below hb12).below hb13) (hs13.reads hb13)
      obtain ⟨a13, c13, hv13, _⟩ := hs13.form
      obtain ⟨SL, HSL⟩ : ∃ n, Hid ((skI L key m).length = n) := ⟨_, rfl⟩
      rw [HSL.out] at hv13
      subst hv13
      have HSm2 : Hid (Calls Try.prog 46 #[.slice a10 YL c10, .slice a13 SL c13] w13 _) := hsm2
      clear hsm2 hs13
      refine wpAnyH_ready (rs := [10]) (by kernel_rfl) (by simp) ?_
      refine AllReadyH.cons (o := _) rfl (fun K hK => ?_) AllReadyH.nil
      go_simp
      refine HSm2.out.mono ?_
      clear HSm2
      rintro e w14 ⟨rfl, hb14⟩
      go_simp
      refine hK.out _ _ ?_ (fun hHeld => ?_)
      · exact (hb12.trans (hb13.mono hb12.size)).trans (hb14.mono (Nat.le_trans hb12.size hb13.size))
      clear hK K
      refine wpAnyH_take (i := 11) (v := .bool false) rfl (by kernel_rfl) (by kernel_rfl) (by kernel_rfl) (fun _ _ _ h => h) (Or.inl ⟨by rfl, ?_⟩) (by assumption) ?_
      · (intro w1 hSw; (try dsimp only at hSw); go_simp)
      simp only [List.getElem_toArray, List.getElem_cons_succ, List.getElem_cons_zero, Act.put, List.setIfInBounds_toArray, List.set_cons_zero, List.set_cons_succ]
      refine wpAnyH_take (i := 12) (v := .bool false) rfl (by kernel_rfl) (by kernel_rfl) (by kernel_rfl) (fun _ _ _ h => h) (Or.inl ⟨by rfl, ?_⟩) (by assumption) ?_
      · (intro w1 hSw; (try dsimp only at hSw); go_simp)
      simp only [List.getElem_toArray, List.getElem_cons_succ, List.getElem_cons_zero, Act.put, List.setIfInBounds_toArray, List.set_cons_zero, List.set_cons_succ]
      refine wpAnyH_take (i := 13) (v := .bool false) rfl (by kernel_rfl) (by kernel_rfl) (by kernel_rfl) (fun _ _ _ h => h) (Or.inl ⟨by rfl, ?_⟩) (by assumption) ?_
      · (intro w1 hSw; (try dsimp only at hSw); go_simp)
      simp only [List.getElem_toArray, List.getElem_cons_succ, List.getElem_cons_zero, Act.put, List.setIfInBounds_toArray, List.set_cons_zero, List.set_cons_succ]
      refine wpAnyH_take (i := 14) (v := .bool true) rfl (by kernel_rfl) (by kernel_rfl) (by kernel_rfl) (fun _ _ _ h => h) (Or.inl ⟨by rfl, ?_⟩) (by assumption) ?_
      · (intro w1 hSw; (try dsimp only at hSw); go_simp)
      simp only [List.getElem_toArray, List.getElem_cons_succ, List.getElem_cons_zero, Act.put, List.setIfInBounds_toArray, List.set_cons_zero, List.set_cons_succ]
      refine wpAnyH_take (i := 15) (v := .slice (some ⟨b2, off2, none⟩) N cap) rfl (by kernel_rfl) (by kernel_rfl) (by kernel_rfl) (fun _ _ _ h => h) (Or.inl ⟨by rfl, ?_⟩) (by assumption) ?_
      · (intro w1 hSw; (try dsimp only at hSw); go_simp)
      simp only [List.getElem_toArray, List.getElem_cons_succ, List.getElem_cons_zero, Act.put, List.setIfInBounds_toArray, List.set_cons_zero, List.set_cons_succ]
      refine wpAnyH_take (i := 16) (v := .int .i64 (N : Int)) rfl (by kernel_rfl) (by kernel_rfl) (by kernel_rfl) (fun _ _ _ h => h) (Or.inl ⟨by rfl, ?_⟩) (by assumption) ?_
      · (intro w1 hSw; (try dsimp only at hSw); go_simp)
      simp only [List.getElem_toArray, List.getElem_cons_succ, List.getElem_cons_zero, Act.put, List.setIfInBounds_toArray, List.set_cons_zero, List.set_cons_succ]
      refine wpAnyH_take (i := 17) (v := .bool true) rfl (by kernel_rfl) (by kernel_rfl) (by kernel_rfl) (fun _ _ _ h => h) (Or.inl ⟨by rfl, ?_⟩) (by assumption) ?_
      · (intro w1 hSw; (try dsimp only at hSw); go_simp)
      simp only [List.getElem_toArray, List.getElem_cons_succ, List.getElem_cons_zero, Act.put, List.setIfInBounds_toArray, List.set_cons_zero, List.set_cons_succ]
      refine wpAnyH_take (i := 18) (v := .bool false) rfl (by kernel_rfl) (by kernel_rfl) (by kernel_rfl) (fun _ _ _ h => h) (Or.inl ⟨by rfl, ?_⟩) (by assumption) ?_
      · (intro w1 hSw; (try dsimp only at hSw); go_simp)
      simp only [List.getElem_toArray, List.getElem_cons_succ, List.getElem_cons_zero, Act.put, List.setIfInBounds_toArray, List.set_cons_zero, List.set_cons_succ]
      refine wpAnyH_take (i := 19) (v := .bool false) rfl (by kernel_rfl) (by kernel_rfl) (by kernel_rfl) (fun _ _ _ h => h) (Or.inl ⟨by rfl, ?_⟩) (by assumption) ?_
      · (intro w1 hSw; (try dsimp only at hSw); go_simp)
      simp only [List.getElem_toArray, List.getElem_cons_succ, List.getElem_cons_zero, Act.put, List.setIfInBounds_toArray, List.set_cons_zero, List.set_cons_succ]
      refine wpAnyH_take (i := 20) (v := .bool false) rfl (by kernel_rfl) (by kernel_rfl) (by kernel_rfl) (fun _ _ _ h => h) (Or.inl ⟨by rfl, ?_⟩) (by assumption) ?_
      · (intro w1 hSw; (try dsimp only at hSw); go_simp)
      simp only [List.getElem_toArray, List.getElem_cons_succ, List.getElem_cons_zero, Act.put, List.setIfInBounds_toArray, List.set_cons_zero, List.set_cons_succ]
      refine wpAnyH_take (i := 21) (v := .bool true) rfl (by kernel_rfl) (by kernel_rfl) (by kernel_rfl) (fun _ _ _ h => h) (Or.inl ⟨by rfl, ?_⟩) (by assumption) ?_
      · (intro w1 hSw; (try dsimp only at hSw); go_simp)
      simp only [List.getElem_toArray, List.getElem_cons_succ, List.getElem_cons_zero, Act.put, List.setIfInBounds_toArray, List.set_cons_zero, List.set_cons_succ]
      refine wpAnyH_take (i := 22) (v := .bool true) rfl (by kernel_rfl) (by kernel_rfl) (by kernel_rfl) (fun _ _ _ h => h) (Or.inl ⟨by rfl, ?_⟩) (by assumption) ?_
      · (intro w1 hSw; (try dsimp only at hSw); go_simp)
      simp only [List.getElem_toArray, List.getElem_cons_succ, List.getElem_cons_zero, Act.put, List.setIfInBounds_toArray, List.set_cons_zero, List.set_cons_succ]
      refine wpAnyH_take (i := 23) (v := .slice af FL cf) rfl (by kernel_rfl) (by kernel_rfl) (by kernel_rfl) (fun _ _ _ h => h) (Or.inl ⟨by rfl, ?_⟩) (by assumption) ?_
      · (intro w1 hSw; (try dsimp only at hSw); go_simp)
      simp only [List.getElem_toArray, List.getElem_cons_succ, List.getElem_cons_zero, Act.put, List.setIfInBounds_toArray, List.set_cons_zero, List.set_cons_succ]
      refine wpAnyH_take (i := 24) (v := .string ⟨FK.toArray⟩) rfl (by kernel_rfl) (by kernel_rfl) (by kernel_rfl) (fun _ _ _ h => h) (Or.inl ⟨by rfl, ?_⟩) (by assumption) ?_
      · (intro w1 hSw; (try dsimp only at hSw); have h0 := reads_text (HRf.out.below hSw); go_simp)
      simp only [List.getElem_toArray, List.getElem_cons_succ, List.getElem_cons_zero, Act.put, List.setIfInBounds_toArray, List.set_cons_zero, List.set_cons_succ]
      refine wpAnyH_take (i := 25) (v := .slice (some ⟨b2, off2, none⟩) N cap) rfl (by kernel_rfl) (by kernel_rfl) (by kernel_rfl) (fun _ _ _ h => h) (Or.inl ⟨by rfl, ?_⟩) (by assumption) ?_
      · (intro w1 hSw; (try dsimp only at hSw); go_simp)
      simp only [List.getElem_toArray, List.getElem_cons_succ, List.getElem_cons_zero, Act.put, List.setIfInBounds_toArray, List.set_cons_zero, List.set_cons_succ]
      refine wpAnyH_take (i := 26) (v := .pointer (some ⟨b2, off2, none⟩)) rfl (by kernel_rfl) (by kernel_rfl) (by kernel_rfl) (fun _ _ _ h => h) (Or.inl ⟨by rfl, ?_⟩) (by assumption) ?_
      · (intro w1 hSw; (try dsimp only at hSw); go_simp)
      simp only [List.getElem_toArray, List.getElem_cons_succ, List.getElem_cons_zero, Act.put, List.setIfInBounds_toArray, List.set_cons_zero, List.set_cons_succ]
      refine wpAnyH_take (i := 27) (v := .pointer (some ⟨b2, off2, none⟩)) rfl (by kernel_rfl) (by kernel_rfl) (by kernel_rfl) (fun _ _ _ h => h) (Or.inl ⟨by rfl, ?_⟩) (by assumption) ?_
      · (intro w1 hSw; (try dsimp only at hSw); go_simp)
      simp only [List.getElem_toArray, List.getElem_cons_succ, List.getElem_cons_zero, Act.put, List.setIfInBounds_toArray, List.set_cons_zero, List.set_cons_succ]
      refine wpAnyH_take (i := 28) (v := .slice fa FL fc) rfl (by kernel_rfl) (by kernel_rfl) (by kernel_rfl) (fun _ _ _ h => h) (Or.inl ⟨by rfl, ?_⟩) (by assumption) ?_
      · (intro w1 hSw; (try dsimp only at hSw); have h0 := (hSw.cell (p := ⟨b2, off2, none⟩) HCF.out.1).trans HCF.out.2.1; go_simp)
      simp only [List.getElem_toArray, List.getElem_cons_succ, List.getElem_cons_zero, Act.put, List.setIfInBounds_toArray, List.set_cons_zero, List.set_cons_succ]
      refine wpAnyH_take (i := 29) (v := .string ⟨FK.toArray⟩) rfl (by kernel_rfl) (by kernel_rfl) (by kernel_rfl) (fun _ _ _ h => h) (Or.inl ⟨by rfl, ?_⟩) (by assumption) ?_
      · (intro w1 hSw; (try dsimp only at hSw); have h0 := reads_text (HRF.out.below hSw); go_simp)
      simp only [List.getElem_toArray, List.getElem_cons_succ, List.getElem_cons_zero, Act.put, List.setIfInBounds_toArray, List.set_cons_zero, List.set_cons_succ]
      refine wpAnyH_take (i := 30) (v := .bool false) rfl (by kernel_rfl) (by kernel_rfl) (by kernel_rfl) (fun _ _ _ h => h) (Or.inl ⟨by rfl, ?_⟩) (by assumption) ?_
      · (intro w1 hSw; (try dsimp only at hSw); go_simp)
      simp only [List.getElem_toArray, List.getElem_cons_succ, List.getElem_cons_zero, Act.put, List.setIfInBounds_toArray, List.set_cons_zero, List.set_cons_succ]
      refine wpAnyH_take (i := 31) (v := .bool false) rfl (by kernel_rfl) (by kernel_rfl) (by kernel_rfl) (fun _ _ _ h => h) (Or.inl ⟨by rfl, ?_⟩) (by assumption) ?_
      · (intro w1 hSw; (try dsimp only at hSw); go_simp)
      simp only [List.getElem_toArray, List.getElem_cons_succ, List.getElem_cons_zero, Act.put, List.setIfInBounds_toArray, List.set_cons_zero, List.set_cons_succ]
      refine wpAnyH_take (i := 32) (v := .slice az ZL cz) rfl (by kernel_rfl) (by kernel_rfl) (by kernel_rfl) (fun _ _ _ h => h) (Or.inl ⟨by rfl, ?_⟩) (by assumption) ?_
      · (intro w1 hSw; (try dsimp only at hSw); go_simp)
      simp only [List.getElem_toArray, List.getElem_cons_succ, List.getElem_cons_zero, Act.put, List.setIfInBounds_toArray, List.set_cons_zero, List.set_cons_succ]
      refine wpAnyH_take (i := 33) (v := .string ⟨ZK.toArray⟩) rfl (by kernel_rfl) (by kernel_rfl) (by kernel_rfl) (fun _ _ _ h => h) (Or.inl ⟨by rfl, ?_⟩) (by assumption) ?_
      · (intro w1 hSw; (try dsimp only at hSw); have h0 := reads_text (HRz.out.below hSw); go_simp)
      simp only [List.getElem_toArray, List.getElem_cons_succ, List.getElem_cons_zero, Act.put, List.setIfInBounds_toArray, List.set_cons_zero, List.set_cons_succ]
      refine wpAnyH_take (i := 34) (v := .slice (some ⟨b2, off2, none⟩) N cap) rfl (by kernel_rfl) (by kernel_rfl) (by kernel_rfl) (fun _ _ _ h => h) (Or.inl ⟨by rfl, ?_⟩) (by assumption) ?_
      · (intro w1 hSw; (try dsimp only at hSw); go_simp)
      simp only [List.getElem_toArray, List.getElem_cons_succ, List.getElem_cons_zero, Act.put, List.setIfInBounds_toArray, List.set_cons_zero, List.set_cons_succ]
      refine wpAnyH_take (i := 35) (v := .slice (some ⟨b2, off2, none⟩) N cap) rfl (by kernel_rfl) (by kernel_rfl) (by kernel_rfl) (fun _ _ _ h => h) (Or.inl ⟨by rfl, ?_⟩) (by assumption) ?_
      · (intro w1 hSw; (try dsimp only at hSw); go_simp)
      simp only [List.getElem_toArray, List.getElem_cons_succ, List.getElem_cons_zero, Act.put, List.setIfInBounds_toArray, List.set_cons_zero, List.set_cons_succ]
      refine wpAnyH_take (i := 36) (v := .int .i64 (N : Int)) rfl (by kernel_rfl) (by kernel_rfl) (by kernel_rfl) (fun _ _ _ h => h) (Or.inl ⟨by rfl, ?_⟩) (by assumption) ?_
      · (intro w1 hSw; (try dsimp only at hSw); go_simp)
      simp only [List.getElem_toArray, List.getElem_cons_succ, List.getElem_cons_zero, Act.put, List.setIfInBounds_toArray, List.set_cons_zero, List.set_cons_succ]
      refine wpAnyH_take (i := 37) (v := .int .i64 (Q : Int)) rfl (by kernel_rfl) (by kernel_rfl) (by kernel_rfl) (fun _ _ _ h => h) (Or.inl ⟨by rfl, ?_⟩) (by assumption) ?_
      · (intro w1 hSw; (try dsimp only at hSw); go_simp)
      simp only [List.getElem_toArray, List.getElem_cons_succ, List.getElem_cons_zero, Act.put, List.setIfInBounds_toArray, List.set_cons_zero, List.set_cons_succ]
      refine wpAnyH_take (i := 38) (v := .pointer (some ⟨b2, off2 + Q * 7, none⟩)) rfl (by kernel_rfl) (by kernel_rfl) (by kernel_rfl) (fun _ _ _ h => h) (Or.inl ⟨by rfl, ?_⟩) (by assumption) ?_
      · (intro w1 hSw; (try dsimp only at hSw); go_simp)
      simp only [List.getElem_toArray, List.getElem_cons_succ, List.getElem_cons_zero, Act.put, List.setIfInBounds_toArray, List.set_cons_zero, List.set_cons_succ]
      refine wpAnyH_take (i := 39) (v := .pointer (some ⟨b2, off2 + Q * 7, none⟩)) rfl (by kernel_rfl) (by kernel_rfl) (by kernel_rfl) (fun _ _ _ h => h) (Or.inl ⟨by rfl, ?_⟩) (by assumption) ?_
      · (intro w1 hSw; (try dsimp only at hSw); go_simp)
      simp only [List.getElem_toArray, List.getElem_cons_succ, List.getElem_cons_zero, Act.put, List.setIfInBounds_toArray, List.set_cons_zero, List.set_cons_succ]
      refine wpAnyH_take (i := 40) (v := .slice za ZL zc) rfl (by kernel_rfl) (by kernel_rfl) (by kernel_rfl) (fun _ _ _ h => h) (Or.inl ⟨by rfl, ?_⟩) (by assumption) ?_
      · (intro w1 hSw; (try dsimp only at hSw); have h0 := (hSw.cell (p := ⟨b2, off2 + Q * 7, none⟩) HCF.out.1).trans HCF.out.2.2; go_simp)
      simp only [List.getElem_toArray, List.getElem_cons_succ, List.getElem_cons_zero, Act.put, List.setIfInBounds_toArray, List.set_cons_zero, List.set_cons_succ]
      refine wpAnyH_take (i := 41) (v := .string ⟨ZK.toArray⟩) rfl (by kernel_rfl) (by kernel_rfl) (by kernel_rfl) (fun _ _ _ h => h) (Or.inl ⟨by rfl, ?_⟩) (by assumption) ?_
      · (intro w1 hSw; (try dsimp only at hSw); have h0 := reads_text (HRZ.out.below hSw); go_simp)
      simp only [List.getElem_toArray, List.getElem_cons_succ, List.getElem_cons_zero, Act.put, List.setIfInBounds_toArray, List.set_cons_zero, List.set_cons_succ]
      refine wpAnyH_take (i := 42) (v := .bool false) rfl (by kernel_rfl) (by kernel_rfl) (by kernel_rfl) (fun _ _ _ h => h) (Or.inl ⟨by rfl, ?_⟩) (by assumption) ?_
      · (intro w1 hSw; (try dsimp only at hSw); go_simp)
      simp only [List.getElem_toArray, List.getElem_cons_succ, List.getElem_cons_zero, Act.put, List.setIfInBounds_toArray, List.set_cons_zero, List.set_cons_succ]
      refine wpAnyH_take (i := 43) (v := .bool false) rfl (by kernel_rfl) (by kernel_rfl) (by kernel_rfl) (fun _ _ _ h => h) (Or.inl ⟨by rfl, ?_⟩) (by assumption) ?_
      · (intro w1 hSw; (try dsimp only at hSw); go_simp)
      simp only [List.getElem_toArray, List.getElem_cons_succ, List.getElem_cons_zero, Act.put, List.setIfInBounds_toArray, List.set_cons_zero, List.set_cons_succ]
      refine wpAnyH_take (i := 44) (v := .bool false) rfl (by kernel_rfl) (by kernel_rfl) (by kernel_rfl) (fun _ _ _ h => h) (Or.inl ⟨by rfl, ?_⟩) (by assumption) ?_
      · (intro w1 hSw; (try dsimp only at hSw); go_simp)
      simp only [List.getElem_toArray, List.getElem_cons_succ, List.getElem_cons_zero, Act.put, List.setIfInBounds_toArray, List.set_cons_zero, List.set_cons_succ]
      refine wpAnyH_take (i := 45) (v := .bool false) rfl (by kernel_rfl) (by kernel_rfl) (by kernel_rfl) (fun _ _ _ h => h) (Or.inl ⟨by rfl, ?_⟩) (by assumption) ?_
      · (intro w1 hSw; (try dsimp only at hSw); go_simp)
      simp only [List.getElem_toArray, List.getElem_cons_succ, List.getElem_cons_zero, Act.put, List.setIfInBounds_toArray, List.set_cons_zero, List.set_cons_succ]
      refine wpAnyH_done (by kernel_rfl) ?_ _
      refine NoPanic.normal ?_
      have hbe14 : Below w11.drew.heap.size w11.drew w14 := (hb12.trans (hb13.mono hb12.size)).trans (hb14.mono (Nat.le_trans hb12.size hb13.size))
      have HB14 : Hid (Below w.heap.size w w14) := HBd.out.trans (hbe14.mono HBd.out.size)
      have HA14 : Hid (Al w14 w.heap.size (.slice a9 N c9) xs) := Al.of ((HA11.out.below (Below.refl _ _).drew).below hbe14) (Nat.le_refl _)
      have HF14 : Hid (Hld w14 w.heap.size (.slice af FL cf) FL) := Hld.of (HOf.out.below hbe14) HB10.out.size HFL.out
      have HZ14 : Hid (Hld w14 w.heap.size (.slice az ZL cz) ZL) := Hld.of (HOz.out.below hbe14) HB10.out.size HZL.out
      have HKp : Hid (∀ x ∈ xs, 0 < x.e.1.length) := fun x hx => by
        have : x.e ∈ L := by rw [← HXs.out]; exact List.mem_map_of_mem hx
        exact (HOk.out.k _ this).1
      have HXl : Hid (xs.length = N) := by unfold Hid; rw [← HN.out, ← HXs.out, List.length_map]
      have HFZ : Hid (0 < ZL → 0 < FL) := fun h => by
        have h0 : 0 < L.length := by
          rcases Nat.eq_zero_or_pos L.length with q | q
          · exfalso
            rw [List.length_eq_zero_iff] at q
            rw [← HZL.out, q] at h
            exact absurd h (by decide)
          · exact q
        rw [← HFL.out, keyF_of h0]
        exact (HOk.out.k _ (List.getElem_mem h0)).1
      have hZb : ZL ≤ 256 := by
        rcases Nat.eq_zero_or_pos L.length with q | q
        · rw [List.length_eq_zero_iff] at q; rw [← HZL.out, q]; decide
        · rw [← HZL.out, keyZ_of (by omega)]; exact (HOk.out.k _ (List.getElem_mem _)).2
      clear hb12 hb13 hb14 hbe14 hHeld HB12 HTY HOf HOz HA11 HBd HB11 HB10 HYs HYl HSL HXs
      clear HRF HRZ HRf HRz HCF hQs hQw hQN2 hQN3
      go_wp2_with fail
      go_loopw [18] (fun i wr => ∃ k : Nat, i = .int .i64 (k : Int) ∧ k ≤ N ∧ Hid (Al wr w.heap.size (.slice a9 N c9) xs) ∧ Hid (Hld wr w.heap.size (.slice af FL cf) FL) ∧ Hid (Hld wr w.heap.size (.slice az ZL cz) ZL) ∧ Hid (Below w.heap.size w wr)) (fun i _ => N - (intOf i).toNat)
      case atStart => exact ⟨0, rfl, by omega, HA14, HF14, HZ14, HB14⟩
      case round =>
        obtain ⟨k, rfl, hk, HA, HF, HZ, HB⟩ := hrel
        by_cases hlt : k < N
        · have hlt' : (k : Int) < (N : Int) := by omega
          have hkx : k < xs.length := by rw [HXl.out]; exact hlt
          obtain ⟨g, rfl, hc0, hld⟩ := HA.out.at hkx rfl
          have hkp := HKp.out _ (List.getElem_mem hkx)
          obtain ⟨kg, kcp, x0, hkv, hkg, hkg2, hx0, hcx, hfx, cs, hcs⟩ := hld.cell hkp
          obtain ⟨KL, HKL⟩ := hid_ex (xs[k]'hkx).e.1.length
          rw [← HKL.out] at hkv hkp
          rw [hkv] at hc0
          obtain ⟨y, hy⟩ := xor_255 x0 hx0
          have hzr : Below wr.heap.size wr wr.drew := (Below.refl _ _).drew
          have HAd := HA.out.below hzr
          have HFd := HF.out.below hzr
          have HZd := HZ.out.below hzr
          have HAn : Hid (Al (wr.drew.setCell ⟨kg, 0, none⟩ (.int .u8 (y.toNat : Int))) w.heap.size (.slice (some ⟨g, 0, none⟩) N c9) xs) := HAd.turn y hcs
          have HFn : Hid (Hld (wr.drew.setCell ⟨kg, 0, none⟩ (.int .u8 (y.toNat : Int))) w.heap.size (.slice af FL cf) FL) := HFd.turn y
          have HZn : Hid (Hld (wr.drew.setCell ⟨kg, 0, none⟩ (.int .u8 (y.toNat : Int))) w.heap.size (.slice az ZL cz) ZL) := HZd.turn y
          have HBn : Hid (Below w.heap.size w (wr.drew.setCell ⟨kg, 0, none⟩ (.int .u8 (y.toNat : Int)))) := HB.out.drew.trans ((Below.refl _ _).setCell hkg _)
          have hc0' : (wr.drew.setCell ⟨kg, 0, none⟩ (.int .u8 (y.toNat : Int))).cell? ⟨g, k * 7, none⟩ = some (.slice (some ⟨kg, 0, none⟩) KL kcp) := by
            obtain ⟨g9, he9, hc9, _⟩ := HAn.out.at hkx rfl
            simp only [Option.some.injEq, Addr.mk.injEq, and_true] at he9
            subst he9
            rw [← hkv]; exact hc9
          have HC0 : Hid (wr.drew.cell? ⟨g, k * 7, none⟩ = some (.slice (some ⟨kg, 0, none⟩) KL kcp) ∧ wr.drew.cell? ⟨kg, 0, none⟩ = some (.int .u8 (x0 : Int)) ∧ wr.drew.frozen? ⟨kg, 0, none⟩ = false) := ⟨hc0, hcx, hfx⟩
          have HC0' : Hid _ := hc0'
          have hkp' : (KL : Int) > 0 := by omega
          have hkp2 : ¬ KL = 0 := by omega
          have hfd : wr.drew.frozen? ⟨kg, 0, none⟩ = false := hfx
          have hcd : wr.drew.cell? ⟨kg, 0, none⟩ = some (.int .u8 (x0 : Int)) := hcx
          clear hld hcs hkv hkg hkg2 hx0 HAd HFd HZd hc0 hcx hfx hc0'
          go_wp2_with fail
          refine wp_region_noPanic ?_
          refine wp_region_S 14 (fun w' => w'.cell? ⟨g, k * 7, none⟩ = some (.slice (some ⟨kg, 0, none⟩) KL kcp)) (fun w' => w'.cell? ⟨kg, 0, none⟩ = some (.int .u8 (x0 : Int))) (by kernel_rfl) ?_ ?_ (fun hHeld => ?_)
          · exact HC0.out.1
          · exact HC0.out.2.1
          refine wpAnyS_take (i := 0) (v := .slice (some ⟨g, 0, none⟩) N c9) _ rfl (by kernel_rfl) (by kernel_rfl) (by kernel_rfl) (by kernel_rfl) (by kernel_rfl) rfl (fun _ _ _ h => h) (Or.inl ⟨by rfl, ?_⟩) hHeld (fun hHeld => ?_)
          · (intro w1 hSw; have hSw := hSw.1; (try dsimp only at hSw); go_simp)
          simp only [List.getElem_toArray, List.getElem_cons_zero, Act.put, List.setIfInBounds_toArray, List.set_cons_zero, List.set_cons_succ]
          refine wpAnyS_take (i := 1) (v := .int .i64 (k : Int)) _ rfl (by kernel_rfl) (by kernel_rfl) (by kernel_rfl) (by kernel_rfl) (by kernel_rfl) rfl (fun _ _ _ h => h) (Or.inl ⟨by rfl, ?_⟩) hHeld (fun hHeld => ?_)
          · (intro w1 hSw; have hSw := hSw.1; (try dsimp only at hSw); go_simp)
          simp only [List.getElem_toArray, List.getElem_cons_succ, List.getElem_cons_zero, Act.put, List.setIfInBounds_toArray, List.set_cons_zero, List.set_cons_succ]
          refine wpAnyS_take (i := 2) (v := .pointer (some ⟨g, k * 7, none⟩)) _ rfl (by kernel_rfl) (by kernel_rfl) (by kernel_rfl) (by kernel_rfl) (by kernel_rfl) rfl (fun _ _ _ h => h) (Or.inl ⟨by rfl, ?_⟩) hHeld (fun hHeld => ?_)
          · (intro w1 hSw; have hSw := hSw.1; (try dsimp only at hSw); go_simp)
          simp only [List.getElem_toArray, List.getElem_cons_succ, List.getElem_cons_zero, Act.put, List.setIfInBounds_toArray, List.set_cons_zero, List.set_cons_succ]
          refine wpAnyS_take (i := 3) (v := .pointer (some ⟨g, k * 7, none⟩)) _ rfl (by kernel_rfl) (by kernel_rfl) (by kernel_rfl) (by kernel_rfl) (by kernel_rfl) rfl (fun _ _ _ h => h) (Or.inl ⟨by rfl, ?_⟩) hHeld (fun hHeld => ?_)
          · (intro w1 hSw; have hSw := hSw.1; (try dsimp only at hSw); go_simp)
          simp only [List.getElem_toArray, List.getElem_cons_succ, List.getElem_cons_zero, Act.put, List.setIfInBounds_toArray, List.set_cons_zero, List.set_cons_succ]
          refine wpAnyS_take (i := 4) (v := .slice (some ⟨kg, 0, none⟩) KL kcp) _ rfl (by kernel_rfl) (by kernel_rfl) (by kernel_rfl) (by kernel_rfl) (by kernel_rfl) rfl (fun _ _ _ h => h) (Or.inl ⟨by rfl, ?_⟩) hHeld (fun hHeld => ?_)
          · (intro w1 hSw; have hSw := hSw.1; (try dsimp only at hSw); go_simp)
          simp only [List.getElem_toArray, List.getElem_cons_succ, List.getElem_cons_zero, Act.put, List.setIfInBounds_toArray, List.set_cons_zero, List.set_cons_succ]
          refine wpAnyS_take (i := 5) (v := .slice (some ⟨g, 0, none⟩) N c9) _ rfl (by kernel_rfl) (by kernel_rfl) (by kernel_rfl) (by kernel_rfl) (by kernel_rfl) rfl (fun _ _ _ h => h) (Or.inl ⟨by rfl, ?_⟩) hHeld (fun hHeld => ?_)
          · (intro w1 hSw; have hSw := hSw.1; (try dsimp only at hSw); go_simp)
          simp only [List.getElem_toArray, List.getElem_cons_succ, List.getElem_cons_zero, Act.put, List.setIfInBounds_toArray, List.set_cons_zero, List.set_cons_succ]
          refine wpAnyS_take (i := 6) (v := .int .i64 (k : Int)) _ rfl (by kernel_rfl) (by kernel_rfl) (by kernel_rfl) (by kernel_rfl) (by kernel_rfl) rfl (fun _ _ _ h => h) (Or.inl ⟨by rfl, ?_⟩) hHeld (fun hHeld => ?_)
          · (intro w1 hSw; have hSw := hSw.1; (try dsimp only at hSw); go_simp)
          simp only [List.getElem_toArray, List.getElem_cons_succ, List.getElem_cons_zero, Act.put, List.setIfInBounds_toArray, List.set_cons_zero, List.set_cons_succ]
          refine wpAnyS_take (i := 7) (v := .pointer (some ⟨g, k * 7, none⟩)) _ rfl (by kernel_rfl) (by kernel_rfl) (by kernel_rfl) (by kernel_rfl) (by kernel_rfl) rfl (fun _ _ _ h => h) (Or.inl ⟨by rfl, ?_⟩) hHeld (fun hHeld => ?_)
          · (intro w1 hSw; have hSw := hSw.1; (try dsimp only at hSw); go_simp)
          simp only [List.getElem_toArray, List.getElem_cons_succ, List.getElem_cons_zero, Act.put, List.setIfInBounds_toArray, List.set_cons_zero, List.set_cons_succ]
          refine wpAnyS_take (i := 8) (v := .pointer (some ⟨g, k * 7, none⟩)) _ rfl (by kernel_rfl) (by kernel_rfl) (by kernel_rfl) (by kernel_rfl) (by kernel_rfl) rfl (fun _ _ _ h => h) (Or.inl ⟨by rfl, ?_⟩) hHeld (fun hHeld => ?_)
          · (intro w1 hSw; have hSw := hSw.1; (try dsimp only at hSw); go_simp)
          simp only [List.getElem_toArray, List.getElem_cons_succ, List.getElem_cons_zero, Act.put, List.setIfInBounds_toArray, List.set_cons_zero, List.set_cons_succ]
          refine wpAnyS_take (i := 9) (v := .slice (some ⟨kg, 0, none⟩) KL kcp) _ rfl (by kernel_rfl) (by kernel_rfl) (by kernel_rfl) (by kernel_rfl) (by kernel_rfl) rfl (fun _ _ _ h => h) (Or.inl ⟨by rfl, ?_⟩) hHeld (fun hHeld => ?_)
          · (intro w1 hSw; have hSw := hSw.1; (try dsimp only at hSw); go_simp)
          simp only [List.getElem_toArray, List.getElem_cons_succ, List.getElem_cons_zero, Act.put, List.setIfInBounds_toArray, List.set_cons_zero, List.set_cons_succ]
          refine wpAnyS_take (i := 10) (v := .pointer (some ⟨kg, 0, none⟩)) _ rfl (by kernel_rfl) (by kernel_rfl) (by kernel_rfl) (by kernel_rfl) (by kernel_rfl) rfl (fun _ _ _ h => h) (Or.inl ⟨by rfl, ?_⟩) hHeld (fun hHeld => ?_)
          · (intro w1 hSw; have hSw := hSw.1; (try dsimp only at hSw); go_simp)
          simp only [List.getElem_toArray, List.getElem_cons_succ, List.getElem_cons_zero, Act.put, List.setIfInBounds_toArray, List.set_cons_zero, List.set_cons_succ]
          refine wpAnyS_take (i := 11) (v := .int .u8 (x0 : Int)) true rfl (by kernel_rfl) (by kernel_rfl) (by kernel_rfl) (by kernel_rfl) (by kernel_rfl) (by kernel_rfl) (fun _ _ _ h => h) (Or.inl ⟨by rfl, ?_⟩) hHeld (fun hHeld => ?_)
          · (intro w1 hSw; have hSw2 := hSw.2 rfl; have hSw := hSw.1; (try dsimp only at hSw hSw2); go_simp)
          simp only [List.getElem_toArray, List.getElem_cons_succ, List.getElem_cons_zero, Act.put, List.setIfInBounds_toArray, List.set_cons_zero, List.set_cons_succ]
          refine wpAnyS_take (i := 12) (v := .int .u8 (y.toNat : Int)) _ rfl (by kernel_rfl) (by kernel_rfl) (by kernel_rfl) (by kernel_rfl) (by kernel_rfl) rfl (fun _ _ _ h => h) (Or.inl ⟨by rfl, ?_⟩) hHeld (fun hHeld => ?_)
          · (intro w1 hSw; have hSw := hSw.1; (try dsimp only at hSw); go_simp)
          simp only [List.getElem_toArray, List.getElem_cons_succ, List.getElem_cons_zero, Act.put, List.setIfInBounds_toArray, List.set_cons_zero, List.set_cons_succ]
          refine wpAnyS_take (i := 13) (v := .pointer (some ⟨kg, 0, none⟩)) _ rfl (by kernel_rfl) (by kernel_rfl) (by kernel_rfl) (by kernel_rfl) (by kernel_rfl) rfl (fun _ _ _ h => h) (Or.inl ⟨by rfl, ?_⟩) hHeld (fun hHeld => ?_)
          · (intro w1 hSw; have hSw := hSw.1; (try dsimp only at hSw); go_simp)
          simp only [List.getElem_toArray, List.getElem_cons_succ, List.getElem_cons_zero, Act.put, List.setIfInBounds_toArray, List.set_cons_zero, List.set_cons_succ]
          refine wpAnyS_ready (i := 14) (by kernel_rfl) rfl (fun K hK => ?_)
          go_simp
          refine hK.out _ _ ⟨?_, fun hno => absurd hno (by decide)⟩ (fun hHeld => ?_)
          · exact HC0'.out
          clear hK K
          refine wpAnyS_done (by kernel_rfl) ?_ _
          refine NoPanic.normal ?_
          clear hfd hcd hHeld
          go_wp2_with fail
          go_roundw
          case rel => exact ⟨k + 1, by go_num, by omega, HAn, HFn, HZn, HBn⟩
          case measure => simp [intOf]; omega
        · have hlt' : ¬ (k : Int) < (N : Int) := by omega
          clear HA
          go_wp2_with fail
          go_loopw [19] (fun i wr => ∃ k : Nat, i = .int .i64 (k : Int) ∧ k ≤ ZL ∧ Hid (Hld wr w.heap.size (.slice af FL cf) FL) ∧ Hid (Hld wr w.heap.size (.slice az ZL cz) ZL) ∧ Hid (Below w.heap.size w wr)) (fun i _ => ZL - (intOf i).toNat)
          case atStart => exact ⟨0, rfl, by omega, HF, HZ, HB⟩
          case round =>
            rename World => wz
            obtain ⟨j, rfl, hj, HFr, HZr, HBr⟩ := hrel
            by_cases hjl : j < ZL
            · have hjl' : (j : Int) < (ZL : Int) := by omega
              obtain ⟨zg, zcp, xz, hzv, hzg, hzg2, _, hcz, hfz, _⟩ := HZr.out.cell hjl
              obtain ⟨fg, fcp, xf, hfv, hfg, hfg2, _, hcf, hff, _⟩ := (HFr.out.turn (g := zg) (i := j) 7).cell (HFZ.out (by omega))
              simp only [Value.slice.injEq] at hzv hfv
              obtain ⟨rfl, -, rfl⟩ := hzv
              obtain ⟨rfl, -, rfl⟩ := hfv
              have e77 : (((7 : UInt8).toNat : Nat) : Int) = 7 := rfl
              have hF0 : ¬ FL = 0 := by have := HFZ.out (by omega); omega
              have hF1 : 0 < FL := by omega
              have HFn : Hid (Hld ((wz.setCell ⟨zg, j, none⟩ (.int .u8 7)).setCell ⟨fg, 0, none⟩ (.int .u8 7)) w.heap.size (.slice (some ⟨fg, 0, none⟩) FL cf) FL) := by have := (HFr.out.turn (g := zg) (i := j) 7).turn (g := fg) (i := 0) 7; rw [e77] at this; exact this
              have HZn : Hid (Hld ((wz.setCell ⟨zg, j, none⟩ (.int .u8 7)).setCell ⟨fg, 0, none⟩ (.int .u8 7)) w.heap.size (.slice (some ⟨zg, 0, none⟩) ZL cz) ZL) := by have := (HZr.out.turn (g := zg) (i := j) 7).turn (g := fg) (i := 0) 7; rw [e77] at this; exact this
              have HBn : Hid (Below w.heap.size w ((wz.setCell ⟨zg, j, none⟩ (.int .u8 7)).setCell ⟨fg, 0, none⟩ (.int .u8 7))) := (HBr.out.trans ((Below.refl _ _).setCell hzg _)).trans ((Below.refl _ _).setCell hfg _)
              rw [e77] at hcf hff
              clear hzg hzg2 hfg hfg2 e77
              go_wp2_with fail
              go_roundw
              case rel => exact ⟨j + 1, by go_num, by omega, HFn, HZn, HBn⟩
              case measure => simp [intOf]; omega
            · have hjl' : ¬ (j : Int) < (ZL : Int) := by omega
              go_wp2_with fail
              go_ret
              exact ⟨rfl, HBr.out⟩
end Go.Proofs.Ytlpjdfgknmfmnaa
