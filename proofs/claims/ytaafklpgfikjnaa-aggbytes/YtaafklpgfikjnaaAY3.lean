/- The contract of the reference's Read of layer 2. -/
import Derived.Test.YtaafklpgfikjnaaAY2
import Derived.RangeFuncRecord
namespace Go.Proofs.Ytaafklpgfikjnaa
open Go.RowKit

/-- What the reference takes forty-one bytes for. -/
def decR (l : List UInt8) : Ag := { decU l with o := l.getD 0 0 != 0 }
theorem decR_ok (l : List UInt8) (hl : l.length = 41) : AgOk (decR l) := by
  obtain ⟨h1, h2, h3, h4, h5, h6, h7, h8⟩ := decU_ok l hl
  exact ⟨h1, h2, h3, h4, h5, h6, h7, h8⟩
theorem decR_low {l : List UInt8} (h : (l.getD 0 0).toNat ≤ 1) : decR l = decU l := by
  unfold decR decU
  have : (l.getD 0 0 != 0) = (l.getD 0 0 == 1) := by
    generalize l.getD 0 0 = x at h
    by_cases hx : x = 1
    · subst hx; rfl
    · have : x = 0 := by
        apply UInt8.toNat_inj.1
        have : x.toNat ≠ 1 := fun e => hx (UInt8.toNat_inj.1 e)
        show x.toNat = 0
        omega
      subst this; rfl
  rw [this]
theorem aggU_head (a : Ag) : ((aggU a).getD 0 0).toNat ≤ 1 := by
  unfold aggU
  simp only [List.getD_cons_zero]
  split <;> decide
/-- What the reference's Read finds is what Read finds. -/
theorem rd_ref (l : List UInt8) (hl : l.length = 41) : (wrE (decR l) = 0 ∧ wrU (decR l) = l → rdA l = decR l ∧ rdR l = 0) ∧ (¬ (wrE (decR l) = 0 ∧ wrU (decR l) = l) → rdA l = aZ ∧ rdR l = 3) := by
  constructor
  · rintro ⟨h1, h2⟩
    have hr : rightB (decR l) = true := by
      unfold wrE at h1
      split at h1
      · assumption
      · omega
    have hU : wrU (decR l) = aggU (decR l) := by unfold wrU; rw [if_pos hr]
    have hx : (l.getD 0 0).toNat ≤ 1 := by
      have := aggU_head (decR l)
      rw [← hU, h2] at this; exact this
    have e := decR_low hx
    rw [e] at hr
    have hg : rdG l := ⟨hx, hr⟩
    refine ⟨?_, ?_⟩
    · unfold rdA; rw [if_pos ⟨hl, hg⟩, e]
    · unfold rdR; rw [if_neg (by omega), if_neg (by omega), if_pos hg]
  · intro h
    have hg : ¬ rdG l := by
      rintro ⟨hx, hr⟩
      apply h
      rw [decR_low hx]
      unfold wrE wrU
      rw [if_pos hr, if_pos hr]
      exact ⟨rfl, aggU_dec l hl hx⟩
    refine ⟨?_, ?_⟩
    · unfold rdA; rw [if_neg (fun h => hg h.2)]
    · unfold rdR; rw [if_neg (by omega), if_neg (by omega), if_neg hg]
theorem ref16_any (v : Value) (p : List UInt8) (hp : p.length = 16) (w : World) (hR : Reads w v p) :
    Calls Try.prog 20 #[v] w fun e w' => e = .returned (.tuple #[.agg #[.int .i64 (w64 (bv (p.take 8))), .int .u64 ((bv (p.drop 8) : Nat) : Int)], .int .i64 0]) ∧ Below w.heap.size w w' := by
  rcases hR with ⟨h, _⟩ | ⟨b, off, cap, rfl, h2, h3, h4, h5, h6⟩
  · rw [h] at hp; simp at hp
  · rw [hp]
    have e1 : w64 (bv (p.take 8)) = IntKind.i64.wrap (beval ((zsU p).take 8)) := by
      unfold w64; rw [← beval_bv]; unfold zsU; rw [List.map_take]
    have e2 : ((bv (p.drop 8) : Nat) : Int) = beval ((zsU p).drop 8) := by
      rw [← beval_bv]; unfold zsU; rw [List.map_drop]
    rw [e1, e2]
    refine refRead16 b off cap (zsU p) (by unfold zsU; simp [hp]) (zsU_bd p) w h5 ?_
    intro i hi
    rw [h6 i (by omega), zsU_cell p i (by omega)]
theorem set2' {w : World} {b : Nat} {T : TypeId} {x0 x1 x2 x3 x4 x5 : Value} (h : w.heap[b]? = some (.cells #[x0, x1, x2, x3, x4, x5] T)) (v2 v3 : Value) :
    ((w.setCell ⟨b, 2, none⟩ v2).setCell ⟨b, 3, none⟩ v3).heap[b]? = some (.cells #[x0, x1, v2, v3, x4, x5] T) := by
  have h2 := Go.heap_setCell_same _ b 2 _ _ v2 h
  have h3 := Go.heap_setCell_same _ b 3 _ _ v3 h2
  simpa using h3
set_option maxRecDepth 100000 in
set_option maxHeartbeats 4000000 in
theorem refAR (v : Value) (l : List UInt8) (w : World) (hR : Reads w v l) :
    Calls Try.prog 8 #[v] w fun e w' => e = .returned (.tuple #[agV (rdA l), .int .i64 (rdR l)]) ∧ Below w.heap.size w w' := by
  have HR : Hid (Reads w v l) := hR
  obtain ⟨ab, cb, rfl, hm⟩ := hR.form
  unfold maxLen at hm
  clear hR
  by_cases g1 : (l.length : Int) < 41
  · have e1 : rdA l = aZ := rdA_no (fun h => by omega)
    have e2 : rdR l = 10 := by unfold rdR; rw [if_pos (by omega)]
    rw [e1, e2, agVZ]
    go_enter Try.func8, Try.ntmps8
    go_wp2_with fail
    exact bodyPost_ret (res_rt rfl _ _ w.heap.size _ rfl (run_loadVar_row _ w.heap.size _ _ _ (0, 0) _ (World.alloc_heap_new _ _) Try.underlying26 rfl (by kernel_rfl))) rfl ⟨rfl, (Below.refl _ _).alloc (Nat.le_refl _) _⟩
  by_cases g2 : (41 : Int) < (l.length : Int)
  · have e1 : rdA l = aZ := rdA_no (fun h => by omega)
    have e2 : rdR l = 2 := by unfold rdR; rw [if_neg (by omega), if_pos (by omega)]
    rw [e1, e2, agVZ]
    go_enter Try.func8, Try.ntmps8
    go_wp2_with fail
    exact bodyPost_ret (res_rt rfl _ _ w.heap.size _ rfl (run_loadVar_row _ w.heap.size _ _ _ (0, 0) _ (World.alloc_heap_new _ _) Try.underlying26 rfl (by kernel_rfl))) rfl ⟨rfl, (Below.refl _ _).alloc (Nat.le_refl _) _⟩
  have hl : l.length = 41 := by omega
  have t8 : ∀ k, k + 8 ≤ 41 → ((l.drop k).take 8).length = 8 := fun k hk => by rw [List.length_take, List.length_drop]; omega
  obtain ⟨a1, f1, hs1, hr1⟩ := sl_part HR.out (c := 1) (d := 9) (by omega) (by omega)
  obtain ⟨a2, f2, hs2, hr2⟩ := sl_part HR.out (c := 9) (d := 25) (by omega) (by omega)
  obtain ⟨a3, f3, hs3, hr3⟩ := sl_part HR.out (c := 25) (d := 33) (by omega) (by omega)
  obtain ⟨a4, f4, hs4, hr4⟩ := sl_part HR.out (c := 33) (d := 41) (by omega) (by omega)
  obtain ⟨bb, oo, rfl, hbl, hcc⟩ := HR.out.at 0 (by omega)
  have k1 : ∀ w', (Instr.slice 27 (.slice (some ⟨bb, oo, none⟩) 41 cb) (some (.int .i64 1)) (some (.int .i64 9)) none).run Try.prog w' = .ok (.slice a1 8 f1) w' := by rw [← hl]; exact hs1
  have k2 : ∀ w', (Instr.slice 27 (.slice (some ⟨bb, oo, none⟩) 41 cb) (some (.int .i64 9)) (some (.int .i64 25)) none).run Try.prog w' = .ok (.slice a2 16 f2) w' := by rw [← hl]; exact hs2
  have k3 : ∀ w', (Instr.slice 27 (.slice (some ⟨bb, oo, none⟩) 41 cb) (some (.int .i64 25)) (some (.int .i64 33)) none).run Try.prog w' = .ok (.slice a3 8 f3) w' := by rw [← hl]; exact hs3
  have k4 : ∀ w', (Instr.slice 27 (.slice (some ⟨bb, oo, none⟩) 41 cb) (some (.int .i64 33)) (some (.int .i64 41)) none).run Try.prog w' = .ok (.slice a4 8 f4) w' := by rw [← hl]; exact hs4
  have HR1 : Hid (Reads w (.slice a1 8 f1) ((l.drop 1).take 8)) := by rw [List.drop_take] at hr1; exact hr1
  have HR2 : Hid (Reads w (.slice a2 16 f2) ((l.drop 9).take 16)) := by rw [List.drop_take] at hr2; exact hr2
  have HR3 : Hid (Reads w (.slice a3 8 f3) ((l.drop 25).take 8)) := by rw [List.drop_take] at hr3; exact hr3
  have HR4 : Hid (Reads w (.slice a4 8 f4) ((l.drop 33).take 8)) := by rw [List.drop_take] at hr4; exact hr4
  have H16 : Hid (((l.drop 9).take 16).length = 16 ∧ ((l.drop 9).take 16).take 8 = (l.drop 9).take 8 ∧ ((l.drop 9).take 16).drop 8 = (l.drop 17).take 8) := by
    refine ⟨by rw [List.length_take, List.length_drop]; omega, ?_, ?_⟩
    · rw [List.take_take]; rfl
    · rw [List.drop_take, List.drop_drop]
  obtain ⟨x, HX⟩ := hid_ex l[0]
  have HX0 : Hid (l.getD 0 0 = x) := by rw [HX.out]; unfold Hid; simp [List.getD, hl]
  simp only [Nat.add_zero] at hcc
  rw [← HX.out] at hcc
  have hcx : w.cell? ⟨bb, oo, none⟩ = some (.int .u8 (x.toNat : Int)) := hcc
  obtain ⟨D, HD⟩ := hid_ex (decR l)
  obtain ⟨n1, HN1⟩ := hid_ex (bv ((l.drop 1).take 8))
  obtain ⟨n2, HN2⟩ := hid_ex (bv ((l.drop 9).take 8))
  obtain ⟨n3, HN3⟩ := hid_ex (bv ((l.drop 17).take 8))
  obtain ⟨n4, HN4⟩ := hid_ex (bv ((l.drop 25).take 8))
  obtain ⟨n5, HN5⟩ := hid_ex (bv ((l.drop 33).take 8))
  have b3 := bv8_lt (t8 17 (by omega))
  rw [← HN3.out] at b3
  have hwb := w64_bd n2
  have HDD : Hid (D = ⟨(n1 : Nat), x != 0, w64 n2 * 18446744073709551616 + (n3 : Nat), w64 n4, w64 n5⟩) := by
    unfold Hid
    rw [HD.out, HN1.out, HN2.out, HN3.out, HN4.out, HN5.out, ← HX0.out]; rfl
  have HDC : Hid (D.c = (n1 : Nat)) := by rw [HDD.out]; exact (rfl : _ = _)
  have HDO : Hid (D.o = ((x.toNat : Int) != 0)) := by
    rw [HDD.out]; unfold Hid; simp only
    by_cases h1 : x = 0
    · subst h1; rfl
    · have : ¬ (x.toNat : Int) = 0 := fun e => h1 (UInt8.toNat_inj.1 (by show x.toNat = 0; omega))
      rw [bne_iff_ne.2 h1, bne_iff_ne.2 this]
  obtain ⟨eh, el⟩ := hilo (w64 n2) ((n3 : Nat) : Int) hwb.1 hwb.2 (by omega) (by omega)
  have HDH : Hid (hi D.s = w64 n2) := by rw [HDD.out]; exact eh
  have HDL : Hid (lo D.s = (n3 : Nat)) := by rw [HDD.out]; exact el
  have HDN : Hid (D.mn = w64 n4) := by rw [HDD.out]; exact (rfl : _ = _)
  have HDX : Hid (D.mx = w64 n5) := by rw [HDD.out]; exact (rfl : _ = _)
  have HT1 : Hid (((l.drop 1).take 8).length = 8) := t8 1 (by omega)
  have HT4 : Hid (((l.drop 25).take 8).length = 8) := t8 25 (by omega)
  have HT5 : Hid (((l.drop 33).take 8).length = 8) := t8 33 (by omega)
  have HOKD : Hid (AgOk D) := by rw [HD.out]; exact decR_ok l hl
  have HWD : Hid (∀ w, Calls Try.prog 6 #[.agg #[.int .u64 D.c, .bool D.o, .int .i64 (hi D.s), .int .u64 (lo D.s), .int .i64 D.mn, .int .i64 D.mx]] w fun e w' => ∃ v, e = .returned (.tuple #[v, .int .i64 (wrE D)]) ∧ Own w' w.heap.size v (wrU D) ∧ Below w.heap.size w w') := fun w => refAW D HOKD.out w
  have HFIN := rd_ref l hl
  rw [← HD.out] at HFIN
  obtain ⟨E, HEE⟩ := hid_ex (wrE D)
  obtain ⟨U, HUU⟩ := hid_ex (wrU D)
  rw [← HEE.out, ← HUU.out] at HWD HFIN
  obtain ⟨RA, HRA⟩ := hid_ex (agV (rdA l))
  obtain ⟨RR, HRR⟩ := hid_ex (rdR l)
  have HG2 : Hid (E = 0 ∧ U = l → RA = .agg #[.int .u64 D.c, .bool D.o, .int .i64 (hi D.s), .int .u64 (lo D.s), .int .i64 D.mn, .int .i64 D.mx] ∧ RR = 0) := by
    intro h1
    obtain ⟨q1, q2⟩ := HFIN.1 h1
    rw [HRA.out, HRR.out, q1, q2]; exact ⟨rfl, rfl⟩
  have HB2 : Hid (¬ (E = 0 ∧ U = l) → RA = .agg #[.int .u64 0, .bool false, .int .i64 0, .int .u64 0, .int .i64 0, .int .i64 0] ∧ RR = 3) := by
    intro h1
    obtain ⟨q1, q2⟩ := HFIN.2 h1
    rw [HRA.out, HRR.out, q1, q2, agVZ]; exact ⟨rfl, rfl⟩
  have HRL : Hid (Reads w (.slice (some ⟨bb, oo, none⟩) 41 cb) l) := by have := HR.out; rw [hl] at this; exact this
  rw [← HRA.out, ← HRR.out]
  rw [hl]
  have hx255 := UInt8.toNat_lt x
  clear hs1 hs2 hs3 hs4 hr1 hr2 hr3 hr4 hcc g1 g2 hm t8 eh el hwb HFIN HRA HRR HEE HUU HOKD HDD HX HD b3 HR
  obtain ⟨w1, HW1⟩ := hid_ex (w.alloc (.cells #[.int .u64 0, .bool false, .int .i64 0, .int .u64 0, .int .i64 0, .int .i64 0] 26))
  have HB1 : Hid (Below w.heap.size w w1) := by rw [HW1.out]; exact (Below.refl _ _).alloc (Nat.le_refl _) _
  have HZ1 : Hid (w1.heap[w.heap.size]? = some (.cells #[.int .u64 0, .bool false, .int .i64 0, .int .u64 0, .int .i64 0, .int .i64 0] 26)) := by rw [HW1.out]; exact World.alloc_heap_new _ _
  go_enter Try.func8, Try.ntmps8
  go_wp2_with fail
  rw [← HW1.out]
  obtain ⟨w3, HW3⟩ : ∃ w3, Hid (w3 = w1) := ⟨_, rfl⟩
  have HB3 : Hid (Below w.heap.size w w3) := by rw [HW3.out]; exact HB1
  have HZ3 : Hid (w3.heap[w.heap.size]? = some (.cells #[.int .u64 0, .bool false, .int .i64 0, .int .u64 0, .int .i64 0, .int .i64 0] 26)) := by rw [HW3.out]; exact HZ1
  have hbl3 : bb < w3.heap.size := Nat.lt_of_lt_of_le hbl HB3.out.size
  have HCX : Hid (w3.cell? ⟨bb, oo, none⟩ = some (.int .u8 (x.toNat : Int))) := (HB3.out.cell (p := ⟨bb, oo, none⟩) hbl).trans hcx
  have hwz : w.heap.size < w3.heap.size := (Array.getElem?_eq_some_iff.1 HZ3.out).1
  rw [← HW3.out]
  clear HW1 HZ1 HB1 hcx HW3
  refine wp_region_noPanic ?_
  refine wp_region_held_drew (S := (fun w' => Below w3.heap.size w3 w')) (by kernel_rfl) ?_ (fun hHeld => ?_)
  · exact (Below.refl _ _).drew
  refine wpAnyH_take (i := 0) (v := .slice (some ⟨bb, oo, none⟩) 41 cb) rfl (by kernel_rfl) (by kernel_rfl) (by kernel_rfl) (fun _ _ _ h => h) (Or.inl ⟨by rfl, ?_⟩) (by assumption) ?_
  · (intro w1 hSw; (try dsimp only at hSw); go_simp)
  simp only [List.getElem_toArray, List.getElem_cons_zero, Act.put, List.setIfInBounds_toArray, List.set_cons_zero, List.set_cons_succ]
  refine wpAnyH_take (i := 1) (v := .slice a1 8 f1) rfl (by kernel_rfl) (by kernel_rfl) (by kernel_rfl) (fun _ _ _ h => h) (Or.inl ⟨by rfl, ?_⟩) (by assumption) ?_
  · (intro w1 hSw; (try dsimp only at hSw); go_simp)
  simp only [List.getElem_toArray, List.getElem_cons_succ, List.getElem_cons_zero, Act.put, List.setIfInBounds_toArray, List.set_cons_zero, List.set_cons_succ]
  refine wpAnyH_take (i := 3) (v := .slice (some ⟨bb, oo, none⟩) 41 cb) rfl (by kernel_rfl) (by kernel_rfl) (by kernel_rfl) (fun _ _ _ h => h) (Or.inl ⟨by rfl, ?_⟩) (by assumption) ?_
  · (intro w1 hSw; (try dsimp only at hSw); go_simp)
  simp only [List.getElem_toArray, List.getElem_cons_succ, List.getElem_cons_zero, Act.put, List.setIfInBounds_toArray, List.set_cons_zero, List.set_cons_succ]
  refine wpAnyH_take (i := 4) (v := .pointer (some ⟨bb, oo, none⟩)) rfl (by kernel_rfl) (by kernel_rfl) (by kernel_rfl) (fun _ _ _ h => h) (Or.inl ⟨by rfl, ?_⟩) (by assumption) ?_
  · (intro w1 hSw; (try dsimp only at hSw); go_simp)
  simp only [List.getElem_toArray, List.getElem_cons_succ, List.getElem_cons_zero, Act.put, List.setIfInBounds_toArray, List.set_cons_zero, List.set_cons_succ]
  refine wpAnyH_take (i := 5) (v := .int .u8 (x.toNat : Int)) rfl (by kernel_rfl) (by kernel_rfl) (by kernel_rfl) (fun _ _ _ h => h) (Or.inl ⟨by rfl, ?_⟩) (by assumption) ?_
  · (intro w1 hSw; (try dsimp only at hSw); have hcy := (hSw.cell (p := ⟨bb, oo, none⟩) hbl3).trans HCX.out; go_simp)
  simp only [List.getElem_toArray, List.getElem_cons_succ, List.getElem_cons_zero, Act.put, List.setIfInBounds_toArray, List.set_cons_zero, List.set_cons_succ]
  refine wpAnyH_take (i := 6) (v := .bool ((x.toNat : Int) != 0)) rfl (by kernel_rfl) (by kernel_rfl) (by kernel_rfl) (fun _ _ _ h => h) (Or.inl ⟨by rfl, ?_⟩) (by assumption) ?_
  · (intro w1 hSw; (try dsimp only at hSw); go_simp)
  simp only [List.getElem_toArray, List.getElem_cons_succ, List.getElem_cons_zero, Act.put, List.setIfInBounds_toArray, List.set_cons_zero, List.set_cons_succ]
  refine wpAnyH_take (i := 7) (v := .slice (some ⟨bb, oo, none⟩) 41 cb) rfl (by kernel_rfl) (by kernel_rfl) (by kernel_rfl) (fun _ _ _ h => h) (Or.inl ⟨by rfl, ?_⟩) (by assumption) ?_
  · (intro w1 hSw; (try dsimp only at hSw); go_simp)
  simp only [List.getElem_toArray, List.getElem_cons_succ, List.getElem_cons_zero, Act.put, List.setIfInBounds_toArray, List.set_cons_zero, List.set_cons_succ]
  refine wpAnyH_take (i := 8) (v := .slice a3 8 f3) rfl (by kernel_rfl) (by kernel_rfl) (by kernel_rfl) (fun _ _ _ h => h) (Or.inl ⟨by rfl, ?_⟩) (by assumption) ?_
  · (intro w1 hSw; (try dsimp only at hSw); go_simp)
  simp only [List.getElem_toArray, List.getElem_cons_succ, List.getElem_cons_zero, Act.put, List.setIfInBounds_toArray, List.set_cons_zero, List.set_cons_succ]
  refine wpAnyH_take (i := 11) (v := .slice (some ⟨bb, oo, none⟩) 41 cb) rfl (by kernel_rfl) (by kernel_rfl) (by kernel_rfl) (fun _ _ _ h => h) (Or.inl ⟨by rfl, ?_⟩) (by assumption) ?_
  · (intro w1 hSw; (try dsimp only at hSw); go_simp)
  simp only [List.getElem_toArray, List.getElem_cons_succ, List.getElem_cons_zero, Act.put, List.setIfInBounds_toArray, List.set_cons_zero, List.set_cons_succ]
  refine wpAnyH_take (i := 12) (v := .slice a4 8 f4) rfl (by kernel_rfl) (by kernel_rfl) (by kernel_rfl) (fun _ _ _ h => h) (Or.inl ⟨by rfl, ?_⟩) (by assumption) ?_
  · (intro w1 hSw; (try dsimp only at hSw); go_simp)
  simp only [List.getElem_toArray, List.getElem_cons_succ, List.getElem_cons_zero, Act.put, List.setIfInBounds_toArray, List.set_cons_zero, List.set_cons_succ]
  refine wpAnyH_ready (rs := [2, 16]) (by kernel_rfl) (by simp) ?_
  refine AllReadyH.cons (o := _) rfl (fun K hK => ?_) (AllReadyH.cons (o := _) rfl (fun K hK => ?_) AllReadyH.nil)
  · go_simp
    refine (number_any _ _ HT1.out _ (HR1.out.below (HB3.out.trans (((Below.refl w3.heap.size w3).drew).mono HB3.out.size)))).mono ?_
    rw [← HN1.out]
    rintro e w' ⟨rfl, hw'⟩
    have hw' := hw'
    subst hw'
    refine hK.out _ _ ?_ (fun hHeld => ?_)
    · exact (Below.refl w3.heap.size w3).drew
    clear hK K
    refine wpAnyH_ready (rs := [9, 16]) (by kernel_rfl) (by simp) ?_
    refine AllReadyH.cons (o := _) rfl (fun K hK => ?_) (AllReadyH.cons (o := _) rfl (fun K hK => ?_) AllReadyH.nil)
    · go_simp
      refine (number_any _ _ HT4.out _ (HR3.out.below (HB3.out.trans (((Below.refl w3.heap.size w3).drew).mono HB3.out.size)))).mono ?_
      rw [← HN4.out]
      rintro e w' ⟨rfl, hw'⟩
      have hw' := hw'
      subst hw'
      refine hK.out _ _ ?_ (fun hHeld => ?_)
      · exact (Below.refl w3.heap.size w3).drew
      clear hK K
      refine wpAnyH_take (i := 10) (v := .int .i64 (w64 n4)) rfl (by kernel_rfl) (by kernel_rfl) (by kernel_rfl) (fun _ _ _ h => h) (Or.inl ⟨by rfl, ?_⟩) (by assumption) ?_
      · (intro w1 hSw; (try dsimp only at hSw); go_simp; rfl)
      simp only [List.getElem_toArray, List.getElem_cons_succ, List.getElem_cons_zero, Act.put, List.setIfInBounds_toArray, List.set_cons_zero, List.set_cons_succ]
      refine wpAnyH_ready (rs := [13, 16]) (by kernel_rfl) (by simp) ?_
      refine AllReadyH.cons (o := _) rfl (fun K hK => ?_) (AllReadyH.cons (o := _) rfl (fun K hK => ?_) AllReadyH.nil)
      · go_simp
        refine (number_any _ _ HT5.out _ (HR4.out.below (HB3.out.trans (((Below.refl w3.heap.size w3).drew).mono HB3.out.size)))).mono ?_
        rw [← HN5.out]
        rintro e w' ⟨rfl, hw'⟩
        have hw' := hw'
        subst hw'
        refine hK.out _ _ ?_ (fun hHeld => ?_)
        · exact (Below.refl w3.heap.size w3).drew
        clear hK K
        refine wpAnyH_take (i := 14) (v := .int .i64 (w64 n5)) rfl (by kernel_rfl) (by kernel_rfl) (by kernel_rfl) (fun _ _ _ h => h) (Or.inl ⟨by rfl, ?_⟩) (by assumption) ?_
        · (intro w1 hSw; (try dsimp only at hSw); go_simp; rfl)
        simp only [List.getElem_toArray, List.getElem_cons_succ, List.getElem_cons_zero, Act.put, List.setIfInBounds_toArray, List.set_cons_zero, List.set_cons_succ]
        rw [← HDO.out, ← HDC.out, ← HDN.out, ← HDX.out]
        refine wpAnyH_take (i := 15) (v := .agg #[.int .u64 D.c, .bool D.o, .int .i64 0, .int .u64 0, .int .i64 D.mn, .int .i64 D.mx]) rfl (by kernel_rfl) (by kernel_rfl) (by kernel_rfl) (fun _ _ _ h => h) (Or.inl ⟨by rfl, ?_⟩) (by assumption) ?_
        · (intro w1 hSw; (try dsimp only at hSw); go_simp)
        simp only [List.getElem_toArray, List.getElem_cons_succ, List.getElem_cons_zero, Act.put, List.setIfInBounds_toArray, List.set_cons_zero, List.set_cons_succ]
        refine wpAnyH_ready (rs := [16]) (by kernel_rfl) (by simp) ?_
        refine AllReadyH.cons (o := _) rfl (fun K hK => ?_) AllReadyH.nil
        go_simp
        refine hK.out _ _ ?_ (fun hHeld => ?_)
        · exact (Below.refl w3.heap.size w3).drew.alloc (Nat.le_refl _) _
        clear hK K
        refine wpAnyH_ready (rs := [17]) (by kernel_rfl) (by simp) ?_
        refine AllReadyH.cons (o := _) rfl (fun K hK => ?_) AllReadyH.nil
        go_simp
        obtain ⟨w5, HW5⟩ := hid_ex ((w3.alloc (.cells #[.int .u64 D.c, .bool D.o, .int .i64 0, .int .u64 0, .int .i64 D.mn, .int .i64 D.mx] 26)).drew)
        rw [← HW5.out]
        have HB5 : Hid (Below w3.heap.size w3 w5) := by rw [HW5.out]; exact ((Below.refl _ _).alloc (Nat.le_refl _) _).drew
        have HX5 : Hid (w5.heap[w3.heap.size]? = some (.cells #[.int .u64 D.c, .bool D.o, .int .i64 0, .int .u64 0, .int .i64 D.mn, .int .i64 D.mx] 26)) := by rw [HW5.out]; exact World.alloc_heap_new _ _
        refine hK.out _ _ ?_ (fun hHeld => ?_)
        · exact HB5.out
        clear hK K
        clear hHeld HW5
        refine wpAnyH_done (by kernel_rfl) ?_ _
        refine NoPanic.normal ?_
        have HB6 : Hid (Below w.heap.size w w5) := HB3.out.trans (HB5.out.mono HB3.out.size)
        go_wp2_with fail
        refine (ref16_any _ _ H16.out.1 _ (HR2.out.below HB6.out)).mono ?_
        rw [H16.out.2.1, H16.out.2.2, ← HN2.out, ← HN3.out, ← HDH.out, ← HDL.out]
        rintro e w6 ⟨rfl, hb6⟩
        have h36 : Below w3.heap.size w3 w6 := HB5.out.trans (hb6.mono HB5.out.size)
        have HX6 : Hid _ := (hb6.block _ (Array.getElem?_eq_some_iff.1 HX5.out).1).trans HX5.out
        have g2 := f_rw HX6.out 2
        have g3 := f_rw HX6.out 3
        have y2 := c_rw HX6.out 2 (by simp)
        have y3 := c_rw HX6.out 3 (by simp)
        have y0 := c_rw HX6.out 0 (by simp)
        have y1 := c_rw HX6.out 1 (by simp)
        have y4 := c_rw HX6.out 4 (by simp)
        have y5 := c_rw HX6.out 5 (by simp)
        simp only [List.getElem_toArray, List.getElem_cons_succ, List.getElem_cons_zero] at y0 y1 y2 y3 y4 y5
        obtain ⟨w7, HW7⟩ := hid_ex ((w6.setCell ⟨w3.heap.size, 2, none⟩ (.int .i64 (hi D.s))).setCell ⟨w3.heap.size, 3, none⟩ (.int .u64 (lo D.s)))
        have HX7 : Hid (w7.heap[w3.heap.size]? = some (.cells #[.int .u64 D.c, .bool D.o, .int .i64 (hi D.s), .int .u64 (lo D.s), .int .i64 D.mn, .int .i64 D.mx] 26)) := by rw [HW7.out]; exact set2' HX6.out _ _
        have HB7 : Hid (Below w3.heap.size w3 w7) := by rw [HW7.out]; exact (h36.setCell (Nat.le_refl _) _).setCell (Nat.le_refl _) _
        have HY7 : Hid (Below w.heap.size w w7) := HB3.out.trans (HB7.out.mono HB3.out.size)
        have HZ7 : Hid _ := (HB7.out.block _ (Array.getElem?_eq_some_iff.1 HZ3.out).1).trans HZ3.out
        clear hb6 h36
        go_wp2_with fail
        rw [← HW7.out]
        clear HW7 HX6 y0 y1 y2 y3 y4 y5 g2 g3
        refine (HWD.out _).mono ?_
        rintro e w8 ⟨v8, rfl, ho8, hb8⟩
        have HB8 : Hid (Below w.heap.size w w8) := HY7.out.trans (hb8.mono HY7.out.size)
        have HZ8 : Hid _ := (hb8.block _ (Array.getElem?_eq_some_iff.1 HZ7.out).1).trans HZ7.out
        have HX8 : Hid _ := (hb8.block _ (Array.getElem?_eq_some_iff.1 HX7.out).1).trans HX7.out
        obtain ⟨a8, c8, rfl, -⟩ := ho8.form
        have q1 := reads_text ho8.reads
        have q2 := reads_text (HRL.out.below HB8.out)
        clear hb8 ho8 HB7 HY7 HZ7 HX7
        have f0 := f_rw HZ8.out 0
        have f1' := f_rw HZ8.out 1
        have f2' := f_rw HZ8.out 2
        have f3' := f_rw HZ8.out 3
        have f4' := f_rw HZ8.out 4
        have f5 := f_rw HZ8.out 5
        have z0 := c_rw HZ8.out 0 (by simp)
        have z1 := c_rw HZ8.out 1 (by simp)
        have z2 := c_rw HZ8.out 2 (by simp)
        have z3 := c_rw HZ8.out 3 (by simp)
        have z4 := c_rw HZ8.out 4 (by simp)
        have z5 := c_rw HZ8.out 5 (by simp)
        have c0 := c_rw HX8.out 0 (by simp)
        have c1 := c_rw HX8.out 1 (by simp)
        have c2 := c_rw HX8.out 2 (by simp)
        have c3 := c_rw HX8.out 3 (by simp)
        have c4 := c_rw HX8.out 4 (by simp)
        have c5 := c_rw HX8.out 5 (by simp)
        simp only [List.getElem_toArray, List.getElem_cons_succ, List.getElem_cons_zero] at z0 z1 z2 z3 z4 z5 c0 c1 c2 c3 c4 c5
        by_cases hE : E = 0
        · have hE0 := hE
          subst hE0
          by_cases hU : U = l
          · obtain ⟨r1, r2⟩ := HG2.out ⟨rfl, hU⟩
            have hbe : (U == l) = true := by simp [hU]
            have hbn : (U != l) = false := by simp [hU]
            clear hU
            subst r1 r2
            go_wp2_with fail
            exact bodyPost_ret (res_rt rfl _ _ w.heap.size _ rfl (run_loadVar_row _ w.heap.size _ _ _ (0, 0) _ (set6' HZ8.out _ _ _ _ _ _) Try.underlying26 rfl (by kernel_rfl))) rfl ⟨rfl, below6' HB8.out (Nat.le_refl _) _ _ _ _ _ _⟩
          · obtain ⟨r1, r2⟩ := HB2.out (fun h => hU h.2)
            have hbe : (U == l) = false := by simp [hU]
            have hbn : (U != l) = true := by simp [hU]
            clear hU
            subst r1 r2
            go_wp2_with fail
            exact bodyPost_ret (res_rt rfl _ _ w.heap.size _ rfl (run_loadVar_row _ w.heap.size _ _ _ (0, 0) _ (set6' HZ8.out _ _ _ _ _ _) Try.underlying26 rfl (by kernel_rfl))) rfl ⟨rfl, below6' HB8.out (Nat.le_refl _) _ _ _ _ _ _⟩
        · obtain ⟨r1, r2⟩ := HB2.out (fun h => hE h.1)
          have hbe : (E == 0) = false := by simp [hE]
          have hbn : (E != 0) = true := by simp [hE]
          subst r1 r2
          go_wp2_with fail
          exact bodyPost_ret (res_rt rfl _ _ w.heap.size _ rfl (run_loadVar_row _ w.heap.size _ _ _ (0, 0) _ (set6' HZ8.out _ _ _ _ _ _) Try.underlying26 rfl (by kernel_rfl))) rfl ⟨rfl, below6' HB8.out (Nat.le_refl _) _ _ _ _ _ _⟩
      · go_simp
        refine hK.out _ _ ?_ (fun hHeld => ?_)
        · exact (Below.refl w3.heap.size w3).drew.alloc (Nat.le_refl _) _
        clear hK K
        refine wpAnyH_ready (rs := [13]) (by kernel_rfl) (by simp) ?_
        refine AllReadyH.cons (o := _) rfl (fun K hK => ?_) AllReadyH.nil
        go_simp
        refine (number_any _ _ HT5.out _ (HR4.out.below (HB3.out.trans (((Below.refl w3.heap.size w3).drew.alloc (Nat.le_refl _) _).mono HB3.out.size)))).mono ?_
        rw [← HN5.out]
        rintro e w' ⟨rfl, hw'⟩
        have hw' := hw'
        subst hw'
        refine hK.out _ _ ?_ (fun hHeld => ?_)
        · exact (Below.refl w3.heap.size w3).drew.alloc (Nat.le_refl _) _
        clear hK K
        refine wpAnyH_take (i := 14) (v := .int .i64 (w64 n5)) rfl (by kernel_rfl) (by kernel_rfl) (by kernel_rfl) (fun _ _ _ h => h) (Or.inl ⟨by rfl, ?_⟩) (by assumption) ?_
        · (intro w1 hSw; (try dsimp only at hSw); go_simp; rfl)
        simp only [List.getElem_toArray, List.getElem_cons_succ, List.getElem_cons_zero, Act.put, List.setIfInBounds_toArray, List.set_cons_zero, List.set_cons_succ]
        rw [← HDO.out, ← HDC.out, ← HDN.out, ← HDX.out]
        refine wpAnyH_take (i := 15) (v := .agg #[.int .u64 D.c, .bool D.o, .int .i64 0, .int .u64 0, .int .i64 D.mn, .int .i64 D.mx]) rfl (by kernel_rfl) (by kernel_rfl) (by kernel_rfl) (fun _ _ _ h => h) (Or.inl ⟨by rfl, ?_⟩) (by assumption) ?_
        · (intro w1 hSw; (try dsimp only at hSw); go_simp)
        simp only [List.getElem_toArray, List.getElem_cons_succ, List.getElem_cons_zero, Act.put, List.setIfInBounds_toArray, List.set_cons_zero, List.set_cons_succ]
        refine wpAnyH_ready (rs := [17]) (by kernel_rfl) (by simp) ?_
        refine AllReadyH.cons (o := _) rfl (fun K hK => ?_) AllReadyH.nil
        go_simp
        obtain ⟨w5, HW5⟩ := hid_ex ((w3.alloc (.cells #[.int .u64 D.c, .bool D.o, .int .i64 0, .int .u64 0, .int .i64 D.mn, .int .i64 D.mx] 26)).drew)
        rw [← HW5.out]
        have HB5 : Hid (Below w3.heap.size w3 w5) := by rw [HW5.out]; exact ((Below.refl _ _).alloc (Nat.le_refl _) _).drew
        have HX5 : Hid (w5.heap[w3.heap.size]? = some (.cells #[.int .u64 D.c, .bool D.o, .int .i64 0, .int .u64 0, .int .i64 D.mn, .int .i64 D.mx] 26)) := by rw [HW5.out]; exact World.alloc_heap_new _ _
        refine hK.out _ _ ?_ (fun hHeld => ?_)
        · exact HB5.out
        clear hK K
        clear hHeld HW5
        refine wpAnyH_done (by kernel_rfl) ?_ _
        refine NoPanic.normal ?_
        have HB6 : Hid (Below w.heap.size w w5) := HB3.out.trans (HB5.out.mono HB3.out.size)
        go_wp2_with fail
        refine (ref16_any _ _ H16.out.1 _ (HR2.out.below HB6.out)).mono ?_
        rw [H16.out.2.1, H16.out.2.2, ← HN2.out, ← HN3.out, ← HDH.out, ← HDL.out]
        rintro e w6 ⟨rfl, hb6⟩
        have h36 : Below w3.heap.size w3 w6 := HB5.out.trans (hb6.mono HB5.out.size)
        have HX6 : Hid _ := (hb6.block _ (Array.getElem?_eq_some_iff.1 HX5.out).1).trans HX5.out
        have g2 := f_rw HX6.out 2
        have g3 := f_rw HX6.out 3
        have y2 := c_rw HX6.out 2 (by simp)
        have y3 := c_rw HX6.out 3 (by simp)
        have y0 := c_rw HX6.out 0 (by simp)
        have y1 := c_rw HX6.out 1 (by simp)
        have y4 := c_rw HX6.out 4 (by simp)
        have y5 := c_rw HX6.out 5 (by simp)
        simp only [List.getElem_toArray, List.getElem_cons_succ, List.getElem_cons_zero] at y0 y1 y2 y3 y4 y5
        obtain ⟨w7, HW7⟩ := hid_ex ((w6.setCell ⟨w3.heap.size, 2, none⟩ (.int .i64 (hi D.s))).setCell ⟨w3.heap.size, 3, none⟩ (.int .u64 (lo D.s)))
        have HX7 : Hid (w7.heap[w3.heap.size]? = some (.cells #[.int .u64 D.c, .bool D.o, .int .i64 (hi D.s), .int .u64 (lo D.s), .int .i64 D.mn, .int .i64 D.mx] 26)) := by rw [HW7.out]; exact set2' HX6.out _ _
        have HB7 : Hid (Below w3.heap.size w3 w7) := by rw [HW7.out]; exact (h36.setCell (Nat.le_refl _) _).setCell (Nat.le_refl _) _
        have HY7 : Hid (Below w.heap.size w w7) := HB3.out.trans (HB7.out.mono HB3.out.size)
        have HZ7 : Hid _ := (HB7.out.block _ (Array.getElem?_eq_some_iff.1 HZ3.out).1).trans HZ3.out
        clear hb6 h36
        go_wp2_with fail
        rw [← HW7.out]
        clear HW7 HX6 y0 y1 y2 y3 y4 y5 g2 g3
        refine (HWD.out _).mono ?_
        rintro e w8 ⟨v8, rfl, ho8, hb8⟩
        have HB8 : Hid (Below w.heap.size w w8) := HY7.out.trans (hb8.mono HY7.out.size)
        have HZ8 : Hid _ := (hb8.block _ (Array.getElem?_eq_some_iff.1 HZ7.out).1).trans HZ7.out
        have HX8 : Hid _ := (hb8.block _ (Array.getElem?_eq_some_iff.1 HX7.out).1).trans HX7.out
        obtain ⟨a8, c8, rfl, -⟩ := ho8.form
        have q1 := reads_text ho8.reads
        have q2 := reads_text (HRL.out.below HB8.out)
        clear hb8 ho8 HB7 HY7 HZ7 HX7
        have f0 := f_rw HZ8.out 0
        have f1' := f_rw HZ8.out 1
        have f2' := f_rw HZ8.out 2
        have f3' := f_rw HZ8.out 3
        have f4' := f_rw HZ8.out 4
        have f5 := f_rw HZ8.out 5
        have z0 := c_rw HZ8.out 0 (by simp)
        have z1 := c_rw HZ8.out 1 (by simp)
        have z2 := c_rw HZ8.out 2 (by simp)
        have z3 := c_rw HZ8.out 3 (by simp)
        have z4 := c_rw HZ8.out 4 (by simp)
        have z5 := c_rw HZ8.out 5 (by simp)
        have c0 := c_rw HX8.out 0 (by simp)
        have c1 := c_rw HX8.out 1 (by simp)
        have c2 := c_rw HX8.out 2 (by simp)
        have c3 := c_rw HX8.out 3 (by simp)
        have c4 := c_rw HX8.out 4 (by simp)
        have c5 := c_rw HX8.out 5 (by simp)
        simp only [List.getElem_toArray, List.getElem_cons_succ, List.getElem_cons_zero] at z0 z1 z2 z3 z4 z5 c0 c1 c2 c3 c4 c5
        by_cases hE : E = 0
        · have hE0 := hE
          subst hE0
          by_cases hU : U = l
          · obtain ⟨r1, r2⟩ := HG2.out ⟨rfl, hU⟩
            have hbe : (U == l) = true := by simp [hU]
            have hbn : (U != l) = false := by simp [hU]
            clear hU
            subst r1 r2
            go_wp2_with fail
            exact bodyPost_ret (res_rt rfl _ _ w.heap.size _ rfl (run_loadVar_row _ w.heap.size _ _ _ (0, 0) _ (set6' HZ8.out _ _ _ _ _ _) Try.underlying26 rfl (by kernel_rfl))) rfl ⟨rfl, below6' HB8.out (Nat.le_refl _) _ _ _ _ _ _⟩
          · obtain ⟨r1, r2⟩ := HB2.out (fun h => hU h.2)
            have hbe : (U == l) = false := by simp [hU]
            have hbn : (U != l) = true := by simp [hU]
            clear hU
            subst r1 r2
            go_wp2_with fail
            exact bodyPost_ret (res_rt rfl _ _ w.heap.size _ rfl (run_loadVar_row _ w.heap.size _ _ _ (0, 0) _ (set6' HZ8.out _ _ _ _ _ _) Try.underlying26 rfl (by kernel_rfl))) rfl ⟨rfl, below6' HB8.out (Nat.le_refl _) _ _ _ _ _ _⟩
        · obtain ⟨r1, r2⟩ := HB2.out (fun h => hE h.1)
          have hbe : (E == 0) = false := by simp [hE]
          have hbn : (E != 0) = true := by simp [hE]
          subst r1 r2
          go_wp2_with fail
          exact bodyPost_ret (res_rt rfl _ _ w.heap.size _ rfl (run_loadVar_row _ w.heap.size _ _ _ (0, 0) _ (set6' HZ8.out _ _ _ _ _ _) Try.underlying26 rfl (by kernel_rfl))) rfl ⟨rfl, below6' HB8.out (Nat.le_refl _) _ _ _ _ _ _⟩
    · go_simp
      refine hK.out _ _ ?_ (fun hHeld => ?_)
      · exact (Below.refl w3.heap.size w3).drew.alloc (Nat.le_refl _) _
      clear hK K
      refine wpAnyH_ready (rs := [9]) (by kernel_rfl) (by simp) ?_
      refine AllReadyH.cons (o := _) rfl (fun K hK => ?_) AllReadyH.nil
      go_simp
      refine (number_any _ _ HT4.out _ (HR3.out.below (HB3.out.trans (((Below.refl w3.heap.size w3).drew.alloc (Nat.le_refl _) _).mono HB3.out.size)))).mono ?_
      rw [← HN4.out]
      rintro e w' ⟨rfl, hw'⟩
      have hw' := hw'
      subst hw'
      refine hK.out _ _ ?_ (fun hHeld => ?_)
      · exact (Below.refl w3.heap.size w3).drew.alloc (Nat.le_refl _) _
      clear hK K
      refine wpAnyH_take (i := 10) (v := .int .i64 (w64 n4)) rfl (by kernel_rfl) (by kernel_rfl) (by kernel_rfl) (fun _ _ _ h => h) (Or.inl ⟨by rfl, ?_⟩) (by assumption) ?_
      · (intro w1 hSw; (try dsimp only at hSw); go_simp; rfl)
      simp only [List.getElem_toArray, List.getElem_cons_succ, List.getElem_cons_zero, Act.put, List.setIfInBounds_toArray, List.set_cons_zero, List.set_cons_succ]
      refine wpAnyH_ready (rs := [13]) (by kernel_rfl) (by simp) ?_
      refine AllReadyH.cons (o := _) rfl (fun K hK => ?_) AllReadyH.nil
      go_simp
      refine (number_any _ _ HT5.out _ (HR4.out.below (HB3.out.trans (((Below.refl w3.heap.size w3).drew.alloc (Nat.le_refl _) _).mono HB3.out.size)))).mono ?_
      rw [← HN5.out]
      rintro e w' ⟨rfl, hw'⟩
      have hw' := hw'
      subst hw'
      refine hK.out _ _ ?_ (fun hHeld => ?_)
      · exact (Below.refl w3.heap.size w3).drew.alloc (Nat.le_refl _) _
      clear hK K
      refine wpAnyH_take (i := 14) (v := .int .i64 (w64 n5)) rfl (by kernel_rfl) (by kernel_rfl) (by kernel_rfl) (fun _ _ _ h => h) (Or.inl ⟨by rfl, ?_⟩) (by assumption) ?_
      · (intro w1 hSw; (try dsimp only at hSw); go_simp; rfl)
      simp only [List.getElem_toArray, List.getElem_cons_succ, List.getElem_cons_zero, Act.put, List.setIfInBounds_toArray, List.set_cons_zero, List.set_cons_succ]
      rw [← HDO.out, ← HDC.out, ← HDN.out, ← HDX.out]
      refine wpAnyH_take (i := 15) (v := .agg #[.int .u64 D.c, .bool D.o, .int .i64 0, .int .u64 0, .int .i64 D.mn, .int .i64 D.mx]) rfl (by kernel_rfl) (by kernel_rfl) (by kernel_rfl) (fun _ _ _ h => h) (Or.inl ⟨by rfl, ?_⟩) (by assumption) ?_
      · (intro w1 hSw; (try dsimp only at hSw); go_simp)
      simp only [List.getElem_toArray, List.getElem_cons_succ, List.getElem_cons_zero, Act.put, List.setIfInBounds_toArray, List.set_cons_zero, List.set_cons_succ]
      refine wpAnyH_ready (rs := [17]) (by kernel_rfl) (by simp) ?_
      refine AllReadyH.cons (o := _) rfl (fun K hK => ?_) AllReadyH.nil
      go_simp
      obtain ⟨w5, HW5⟩ := hid_ex ((w3.alloc (.cells #[.int .u64 D.c, .bool D.o, .int .i64 0, .int .u64 0, .int .i64 D.mn, .int .i64 D.mx] 26)).drew)
      rw [← HW5.out]
      have HB5 : Hid (Below w3.heap.size w3 w5) := by rw [HW5.out]; exact ((Below.refl _ _).alloc (Nat.le_refl _) _).drew
      have HX5 : Hid (w5.heap[w3.heap.size]? = some (.cells #[.int .u64 D.c, .bool D.o, .int .i64 0, .int .u64 0, .int .i64 D.mn, .int .i64 D.mx] 26)) := by rw [HW5.out]; exact World.alloc_heap_new _ _
      refine hK.out _ _ ?_ (fun hHeld => ?_)
      · exact HB5.out
      clear hK K
      clear hHeld HW5
      refine wpAnyH_done (by kernel_rfl) ?_ _
      refine NoPanic.normal ?_
      have HB6 : Hid (Below w.heap.size w w5) := HB3.out.trans (HB5.out.mono HB3.out.size)
      go_wp2_with fail
      refine (ref16_any _ _ H16.out.1 _ (HR2.out.below HB6.out)).mono ?_
      rw [H16.out.2.1, H16.out.2.2, ← HN2.out, ← HN3.out, ← HDH.out, ← HDL.out]
      rintro e w6 ⟨rfl, hb6⟩
      have h36 : Below w3.heap.size w3 w6 := HB5.out.trans (hb6.mono HB5.out.size)
      have HX6 : Hid _ := (hb6.block _ (Array.getElem?_eq_some_iff.1 HX5.out).1).trans HX5.out
      have g2 := f_rw HX6.out 2
      have g3 := f_rw HX6.out 3
      have y2 := c_rw HX6.out 2 (by simp)
      have y3 := c_rw HX6.out 3 (by simp)
      have y0 := c_rw HX6.out 0 (by simp)
      have y1 := c_rw HX6.out 1 (by simp)
      have y4 := c_rw HX6.out 4 (by simp)
      have y5 := c_rw HX6.out 5 (by simp)
      simp only [List.getElem_toArray, List.getElem_cons_succ, List.getElem_cons_zero] at y0 y1 y2 y3 y4 y5
      obtain ⟨w7, HW7⟩ := hid_ex ((w6.setCell ⟨w3.heap.size, 2, none⟩ (.int .i64 (hi D.s))).setCell ⟨w3.heap.size, 3, none⟩ (.int .u64 (lo D.s)))
      have HX7 : Hid (w7.heap[w3.heap.size]? = some (.cells #[.int .u64 D.c, .bool D.o, .int .i64 (hi D.s), .int .u64 (lo D.s), .int .i64 D.mn, .int .i64 D.mx] 26)) := by rw [HW7.out]; exact set2' HX6.out _ _
      have HB7 : Hid (Below w3.heap.size w3 w7) := by rw [HW7.out]; exact (h36.setCell (Nat.le_refl _) _).setCell (Nat.le_refl _) _
      have HY7 : Hid (Below w.heap.size w w7) := HB3.out.trans (HB7.out.mono HB3.out.size)
      have HZ7 : Hid _ := (HB7.out.block _ (Array.getElem?_eq_some_iff.1 HZ3.out).1).trans HZ3.out
      clear hb6 h36
      go_wp2_with fail
      rw [← HW7.out]
      clear HW7 HX6 y0 y1 y2 y3 y4 y5 g2 g3
      refine (HWD.out _).mono ?_
      rintro e w8 ⟨v8, rfl, ho8, hb8⟩
      have HB8 : Hid (Below w.heap.size w w8) := HY7.out.trans (hb8.mono HY7.out.size)
      have HZ8 : Hid _ := (hb8.block _ (Array.getElem?_eq_some_iff.1 HZ7.out).1).trans HZ7.out
      have HX8 : Hid _ := (hb8.block _ (Array.getElem?_eq_some_iff.1 HX7.out).1).trans HX7.out
      obtain ⟨a8, c8, rfl, -⟩ := ho8.form
      have q1 := reads_text ho8.reads
      have q2 := reads_text (HRL.out.below HB8.out)
      clear hb8 ho8 HB7 HY7 HZ7 HX7
      have f0 := f_rw HZ8.out 0
      have f1' := f_rw HZ8.out 1
      have f2' := f_rw HZ8.out 2
      have f3' := f_rw HZ8.out 3
      have f4' := f_rw HZ8.out 4
      have f5 := f_rw HZ8.out 5
      have z0 := c_rw HZ8.out 0 (by simp)
      have z1 := c_rw HZ8.out 1 (by simp)
      have z2 := c_rw HZ8.out 2 (by simp)
      have z3 := c_rw HZ8.out 3 (by simp)
      have z4 := c_rw HZ8.out 4 (by simp)
      have z5 := c_rw HZ8.out 5 (by simp)
      have c0 := c_rw HX8.out 0 (by simp)
      have c1 := c_rw HX8.out 1 (by simp)
      have c2 := c_rw HX8.out 2 (by simp)
      have c3 := c_rw HX8.out 3 (by simp)
      have c4 := c_rw HX8.out 4 (by simp)
      have c5 := c_rw HX8.out 5 (by simp)
      simp only [List.getElem_toArray, List.getElem_cons_succ, List.getElem_cons_zero] at z0 z1 z2 z3 z4 z5 c0 c1 c2 c3 c4 c5
      by_cases hE : E = 0
      · have hE0 := hE
        subst hE0
        by_cases hU : U = l
        · obtain ⟨r1, r2⟩ := HG2.out ⟨rfl, hU⟩
          have hbe : (U == l) = true := by simp [hU]
          have hbn : (U != l) = false := by simp [hU]
          clear hU
          subst r1 r2
          go_wp2_with fail
          exact bodyPost_ret (res_rt rfl _ _ w.heap.size _ rfl (run_loadVar_row _ w.heap.size _ _ _ (0, 0) _ (set6' HZ8.out _ _ _ _ _ _) Try.underlying26 rfl (by kernel_rfl))) rfl ⟨rfl, below6' HB8.out (Nat.le_refl _) _ _ _ _ _ _⟩
        · obtain ⟨r1, r2⟩ := HB2.out (fun h => hU h.2)
          have hbe : (U == l) = false := by simp [hU]
          have hbn : (U != l) = true := by simp [hU]
          clear hU
          subst r1 r2
          go_wp2_with fail
          exact bodyPost_ret (res_rt rfl _ _ w.heap.size _ rfl (run_loadVar_row _ w.heap.size _ _ _ (0, 0) _ (set6' HZ8.out _ _ _ _ _ _) Try.underlying26 rfl (by kernel_rfl))) rfl ⟨rfl, below6' HB8.out (Nat.le_refl _) _ _ _ _ _ _⟩
      · obtain ⟨r1, r2⟩ := HB2.out (fun h => hE h.1)
        have hbe : (E == 0) = false := by simp [hE]
        have hbn : (E != 0) = true := by simp [hE]
        subst r1 r2
        go_wp2_with fail
        exact bodyPost_ret (res_rt rfl _ _ w.heap.size _ rfl (run_loadVar_row _ w.heap.size _ _ _ (0, 0) _ (set6' HZ8.out _ _ _ _ _ _) Try.underlying26 rfl (by kernel_rfl))) rfl ⟨rfl, below6' HB8.out (Nat.le_refl _) _ _ _ _ _ _⟩
  · go_simp
    refine hK.out _ _ ?_ (fun hHeld => ?_)
    · exact (Below.refl w3.heap.size w3).drew.alloc (Nat.le_refl _) _
    clear hK K
    refine wpAnyH_ready (rs := [2]) (by kernel_rfl) (by simp) ?_
    refine AllReadyH.cons (o := _) rfl (fun K hK => ?_) AllReadyH.nil
    go_simp
    refine (number_any _ _ HT1.out _ (HR1.out.below (HB3.out.trans (((Below.refl w3.heap.size w3).drew.alloc (Nat.le_refl _) _).mono HB3.out.size)))).mono ?_
    rw [← HN1.out]
    rintro e w' ⟨rfl, hw'⟩
    have hw' := hw'
    subst hw'
    refine hK.out _ _ ?_ (fun hHeld => ?_)
    · exact (Below.refl w3.heap.size w3).drew.alloc (Nat.le_refl _) _
    clear hK K
    refine wpAnyH_ready (rs := [9]) (by kernel_rfl) (by simp) ?_
    refine AllReadyH.cons (o := _) rfl (fun K hK => ?_) AllReadyH.nil
    go_simp
    refine (number_any _ _ HT4.out _ (HR3.out.below (HB3.out.trans (((Below.refl w3.heap.size w3).drew.alloc (Nat.le_refl _) _).mono HB3.out.size)))).mono ?_
    rw [← HN4.out]
    rintro e w' ⟨rfl, hw'⟩
    have hw' := hw'
    subst hw'
    refine hK.out _ _ ?_ (fun hHeld => ?_)
    · exact (Below.refl w3.heap.size w3).drew.alloc (Nat.le_refl _) _
    clear hK K
    refine wpAnyH_take (i := 10) (v := .int .i64 (w64 n4)) rfl (by kernel_rfl) (by kernel_rfl) (by kernel_rfl) (fun _ _ _ h => h) (Or.inl ⟨by rfl, ?_⟩) (by assumption) ?_
    · (intro w1 hSw; (try dsimp only at hSw); go_simp; rfl)
    simp only [List.getElem_toArray, List.getElem_cons_succ, List.getElem_cons_zero, Act.put, List.setIfInBounds_toArray, List.set_cons_zero, List.set_cons_succ]
    refine wpAnyH_ready (rs := [13]) (by kernel_rfl) (by simp) ?_
    refine AllReadyH.cons (o := _) rfl (fun K hK => ?_) AllReadyH.nil
    go_simp
    refine (number_any _ _ HT5.out _ (HR4.out.below (HB3.out.trans (((Below.refl w3.heap.size w3).drew.alloc (Nat.le_refl _) _).mono HB3.out.size)))).mono ?_
    rw [← HN5.out]
    rintro e w' ⟨rfl, hw'⟩
    have hw' := hw'
    subst hw'
    refine hK.out _ _ ?_ (fun hHeld => ?_)
    · exact (Below.refl w3.heap.size w3).drew.alloc (Nat.le_refl _) _
    clear hK K
    refine wpAnyH_take (i := 14) (v := .int .i64 (w64 n5)) rfl (by kernel_rfl) (by kernel_rfl) (by kernel_rfl) (fun _ _ _ h => h) (Or.inl ⟨by rfl, ?_⟩) (by assumption) ?_
    · (intro w1 hSw; (try dsimp only at hSw); go_simp; rfl)
    simp only [List.getElem_toArray, List.getElem_cons_succ, List.getElem_cons_zero, Act.put, List.setIfInBounds_toArray, List.set_cons_zero, List.set_cons_succ]
    rw [← HDO.out, ← HDC.out, ← HDN.out, ← HDX.out]
    refine wpAnyH_take (i := 15) (v := .agg #[.int .u64 D.c, .bool D.o, .int .i64 0, .int .u64 0, .int .i64 D.mn, .int .i64 D.mx]) rfl (by kernel_rfl) (by kernel_rfl) (by kernel_rfl) (fun _ _ _ h => h) (Or.inl ⟨by rfl, ?_⟩) (by assumption) ?_
    · (intro w1 hSw; (try dsimp only at hSw); go_simp)
    simp only [List.getElem_toArray, List.getElem_cons_succ, List.getElem_cons_zero, Act.put, List.setIfInBounds_toArray, List.set_cons_zero, List.set_cons_succ]
    refine wpAnyH_ready (rs := [17]) (by kernel_rfl) (by simp) ?_
    refine AllReadyH.cons (o := _) rfl (fun K hK => ?_) AllReadyH.nil
    go_simp
    obtain ⟨w5, HW5⟩ := hid_ex ((w3.alloc (.cells #[.int .u64 D.c, .bool D.o, .int .i64 0, .int .u64 0, .int .i64 D.mn, .int .i64 D.mx] 26)).drew)
    rw [← HW5.out]
    have HB5 : Hid (Below w3.heap.size w3 w5) := by rw [HW5.out]; exact ((Below.refl _ _).alloc (Nat.le_refl _) _).drew
    have HX5 : Hid (w5.heap[w3.heap.size]? = some (.cells #[.int .u64 D.c, .bool D.o, .int .i64 0, .int .u64 0, .int .i64 D.mn, .int .i64 D.mx] 26)) := by rw [HW5.out]; exact World.alloc_heap_new _ _
    refine hK.out _ _ ?_ (fun hHeld => ?_)
    · exact HB5.out
    clear hK K
    clear hHeld HW5
    refine wpAnyH_done (by kernel_rfl) ?_ _
    refine NoPanic.normal ?_
    have HB6 : Hid (Below w.heap.size w w5) := HB3.out.trans (HB5.out.mono HB3.out.size)
    go_wp2_with fail
    refine (ref16_any _ _ H16.out.1 _ (HR2.out.below HB6.out)).mono ?_
    rw [H16.out.2.1, H16.out.2.2, ← HN2.out, ← HN3.out, ← HDH.out, ← HDL.out]
    rintro e w6 ⟨rfl, hb6⟩
    have h36 : Below w3.heap.size w3 w6 := HB5.out.trans (hb6.mono HB5.out.size)
    have HX6 : Hid _ := (hb6.block _ (Array.getElem?_eq_some_iff.1 HX5.out).1).trans HX5.out
    have g2 := f_rw HX6.out 2
    have g3 := f_rw HX6.out 3
    have y2 := c_rw HX6.out 2 (by simp)
    have y3 := c_rw HX6.out 3 (by simp)
    have y0 := c_rw HX6.out 0 (by simp)
    have y1 := c_rw HX6.out 1 (by simp)
    have y4 := c_rw HX6.out 4 (by simp)
    have y5 := c_rw HX6.out 5 (by simp)
    simp only [List.getElem_toArray, List.getElem_cons_succ, List.getElem_cons_zero] at y0 y1 y2 y3 y4 y5
    obtain ⟨w7, HW7⟩ := hid_ex ((w6.setCell ⟨w3.heap.size, 2, none⟩ (.int .i64 (hi D.s))).setCell ⟨w3.heap.size, 3, none⟩ (.int .u64 (lo D.s)))
    have HX7 : Hid (w7.heap[w3.heap.size]? = some (.cells #[.int .u64 D.c, .bool D.o, .int .i64 (hi D.s), .int .u64 (lo D.s), .int .i64 D.mn, .int .i64 D.mx] 26)) := by rw [HW7.out]; exact set2' HX6.out _ _
    have HB7 : Hid (Below w3.heap.size w3 w7) := by rw [HW7.out]; exact (h36.setCell (Nat.le_refl _) _).setCell (Nat.le_refl _) _
    have HY7 : Hid (Below w.heap.size w w7) := HB3.out.trans (HB7.out.mono HB3.out.size)
    have HZ7 : Hid _ := (HB7.out.block _ (Array.getElem?_eq_some_iff.1 HZ3.out).1).trans HZ3.out
    clear hb6 h36
    go_wp2_with fail
    rw [← HW7.out]
    clear HW7 HX6 y0 y1 y2 y3 y4 y5 g2 g3
    refine (HWD.out _).mono ?_
    rintro e w8 ⟨v8, rfl, ho8, hb8⟩
    have HB8 : Hid (Below w.heap.size w w8) := HY7.out.trans (hb8.mono HY7.out.size)
    have HZ8 : Hid _ := (hb8.block _ (Array.getElem?_eq_some_iff.1 HZ7.out).1).trans HZ7.out
    have HX8 : Hid _ := (hb8.block _ (Array.getElem?_eq_some_iff.1 HX7.out).1).trans HX7.out
    obtain ⟨a8, c8, rfl, -⟩ := ho8.form
    have q1 := reads_text ho8.reads
    have q2 := reads_text (HRL.out.below HB8.out)
    clear hb8 ho8 HB7 HY7 HZ7 HX7
    have f0 := f_rw HZ8.out 0
    have f1' := f_rw HZ8.out 1
    have f2' := f_rw HZ8.out 2
    have f3' := f_rw HZ8.out 3
    have f4' := f_rw HZ8.out 4
    have f5 := f_rw HZ8.out 5
    have z0 := c_rw HZ8.out 0 (by simp)
    have z1 := c_rw HZ8.out 1 (by simp)
    have z2 := c_rw HZ8.out 2 (by simp)
    have z3 := c_rw HZ8.out 3 (by simp)
    have z4 := c_rw HZ8.out 4 (by simp)
    have z5 := c_rw HZ8.out 5 (by simp)
    have c0 := c_rw HX8.out 0 (by simp)
    have c1 := c_rw HX8.out 1 (by simp)
    have c2 := c_rw HX8.out 2 (by simp)
    have c3 := c_rw HX8.out 3 (by simp)
    have c4 := c_rw HX8.out 4 (by simp)
    have c5 := c_rw HX8.out 5 (by simp)
    simp only [List.getElem_toArray, List.getElem_cons_succ, List.getElem_cons_zero] at z0 z1 z2 z3 z4 z5 c0 c1 c2 c3 c4 c5
    by_cases hE : E = 0
    · have hE0 := hE
      subst hE0
      by_cases hU : U = l
      · obtain ⟨r1, r2⟩ := HG2.out ⟨rfl, hU⟩
        have hbe : (U == l) = true := by simp [hU]
        have hbn : (U != l) = false := by simp [hU]
        clear hU
        subst r1 r2
        go_wp2_with fail
        exact bodyPost_ret (res_rt rfl _ _ w.heap.size _ rfl (run_loadVar_row _ w.heap.size _ _ _ (0, 0) _ (set6' HZ8.out _ _ _ _ _ _) Try.underlying26 rfl (by kernel_rfl))) rfl ⟨rfl, below6' HB8.out (Nat.le_refl _) _ _ _ _ _ _⟩
      · obtain ⟨r1, r2⟩ := HB2.out (fun h => hU h.2)
        have hbe : (U == l) = false := by simp [hU]
        have hbn : (U != l) = true := by simp [hU]
        clear hU
        subst r1 r2
        go_wp2_with fail
        exact bodyPost_ret (res_rt rfl _ _ w.heap.size _ rfl (run_loadVar_row _ w.heap.size _ _ _ (0, 0) _ (set6' HZ8.out _ _ _ _ _ _) Try.underlying26 rfl (by kernel_rfl))) rfl ⟨rfl, below6' HB8.out (Nat.le_refl _) _ _ _ _ _ _⟩
    · obtain ⟨r1, r2⟩ := HB2.out (fun h => hE h.1)
      have hbe : (E == 0) = false := by simp [hE]
      have hbn : (E != 0) = true := by simp [hE]
      subst r1 r2
      go_wp2_with fail
      exact bodyPost_ret (res_rt rfl _ _ w.heap.size _ rfl (run_loadVar_row _ w.heap.size _ _ _ (0, 0) _ (set6' HZ8.out _ _ _ _ _ _) Try.underlying26 rfl (by kernel_rfl))) rfl ⟨rfl, below6' HB8.out (Nat.le_refl _) _ _ _ _ _ _⟩
end Go.Proofs.Ytaafklpgfikjnaa
