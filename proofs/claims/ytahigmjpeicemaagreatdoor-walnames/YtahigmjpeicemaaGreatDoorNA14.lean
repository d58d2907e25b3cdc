/- WNr, joined. -/
import Derived.Test.YtahigmjpeicemaaGreatDoorNA13
/- The reference's names and numbers of files; the walk of WalNames. -/
namespace Go.Proofs.YtahigmjpeicemaaGreatDoor
open Go.RowKit Go.Shelf

/-- The number that digits tell. -/
def dvF (l : List UInt8) : Nat := l.foldl (fun a c => a * 10 + (c.toNat - 48)) 0
theorem dvF_snoc (l : List UInt8) (c : UInt8) : dvF (l ++ [c]) = dvF l * 10 + (c.toNat - 48) := by unfold dvF; rw [List.foldl_append]; rfl
theorem dvF_dec (m : Nat) : dvF (Lib.decDigits m) = m := by
  induction m using Nat.strongRecOn with
  | _ m ih =>
    by_cases h : m < 10
    · rw [Lib.decDigits_one h]; unfold dvF; simp; omega
    · rw [Lib.decDigits, dif_neg h, dvF_snoc, ih (m / 10) (by omega)]
      simp
      omega
theorem dvF_lt : ∀ (k : Nat) (l : List UInt8), l.length ≤ k → (∀ c ∈ l, 48 ≤ c.toNat ∧ c.toNat ≤ 57) → dvF l < 10 ^ k := by
  intro k
  induction k with
  | zero =>
    intro l hl _
    have : l = [] := List.length_eq_zero_iff.1 (by omega)
    subst this
    simp [dvF]
  | succ k ih =>
    intro l hl hd
    rcases List.eq_nil_or_concat l with rfl | ⟨l', c, rfl⟩
    · exact Nat.lt_of_lt_of_le (by simp [dvF]) (Nat.one_le_pow (k + 1) 10 (by decide))
    · rw [List.concat_eq_append] at hl hd ⊢
      rw [dvF_snoc]
      have h1 := ih l' (by simp at hl; omega) (fun x hx => hd x (List.mem_append_left _ hx))
      have h2 := hd c (by simp)
      rw [Nat.pow_succ]
      omega
theorem own_reads1 (w : World) (c : UInt8) : Reads (w.alloc (.cells #[bc c] 5)) (.slice (some ⟨w.heap.size, 0, none⟩) 1 1) [c] := (own_one w c w.heap.size (Nat.le_refl _)).reads
theorem bc48 {y : Int} (h1 : 0 ≤ y) (h2 : y < 10) : bc (UInt8.ofNat (48 + y.toNat)) = .int .u8 (48 + y) := by
  rw [bc_of (by omega)]
  congr 1
  omega
set_option maxRecDepth 100000 in
set_option maxHeartbeats 1000000 in
theorem refDigits_lo (y : Int) (h1 : 0 ≤ y) (h2 : y < 10) (w : World) : Calls Tryz.prog 34 #[.int .i64 y] w fun e w' => e = .returned (.string ⟨(Lib.decDigits y.toNat).toArray⟩) ∧ Below w.heap.size w w' := by
  obtain ⟨c, HC⟩ := hid_ex (UInt8.ofNat (48 + y.toNat))
  have hb : bc c = .int .u8 (48 + y) := by rw [HC.out]; exact bc48 h1 h2
  have ht := reads_text (own_reads1 w c)
  rw [hb] at ht
  have HD : Hid (Lib.decDigits y.toNat = [c]) := by rw [HC.out]; exact Lib.decDigits_one (by omega)
  clear HC hb
  go_enter Tryz.func34, Tryz.ntmps34
  go_wp2_with fail
  go_ret
  exact ⟨by rw [HD.out]; rfl, (Below.refl _ _).alloc (Nat.le_refl _) _⟩
set_option maxRecDepth 100000 in
set_option maxHeartbeats 2000000 in
theorem refDigits_hi (y : Int) (h1 : 10 ≤ y) (h2 : y ≤ 1099511627776) (w : World)
    (ih : ∀ w, Calls Tryz.prog 34 #[.int .i64 (y / 10)] w fun e w' => e = .returned (.string ⟨(Lib.decDigits (y / 10).toNat).toArray⟩) ∧ Below w.heap.size w w') :
    Calls Tryz.prog 34 #[.int .i64 y] w fun e w' => e = .returned (.string ⟨(Lib.decDigits y.toNat).toArray⟩) ∧ Below w.heap.size w w' := by
  obtain ⟨c, HC⟩ := hid_ex (UInt8.ofNat (48 + (y % 10).toNat))
  have HBc : Hid (bc c = .int .u8 (48 + y % 10)) := by rw [HC.out]; exact bc48 (by omega) (by omega)
  obtain ⟨D, HDD⟩ := hid_ex (Lib.decDigits (y / 10).toNat)
  have HD : Hid (Lib.decDigits y.toNat = D ++ [c]) := by
    unfold Hid
    rw [Lib.decDigits, dif_neg (by omega), HDD.out, HC.out]
    congr 3
    · congr 1; omega
    · congr 2; omega
  have hDl : D.length ≤ 13 := by rw [HDD.out]; exact dec_len (by omega)
  have HIH : Hid (∀ w, Calls Tryz.prog 34 #[.int .i64 (y / 10)] w fun e w' => e = .returned (.string ⟨D.toArray⟩) ∧ Below w.heap.size w w') := by rw [HDD.out]; exact ih
  have h10 : ¬ y < 10 := by omega
  have h0 : 0 ≤ y := by omega
  have m1 : 0 ≤ y % 10 := by omega
  have m2 : y % 10 < 10 := by omega
  have HQ1 : Hid (IntKind.i64.wrap (y.tdiv 10) = y / 10) := Go.IntWalk.i64_quo y 10 ⟨h0, by omega, by omega⟩
  have HQ2 : Hid (y.tmod 10 = y % 10) := Int.tmod_eq_emod_of_nonneg h0
  have HQ3 : Hid (IntKind.i64.wrap (48 + y % 10) = 48 + y % 10) := Go.IntWalk.i64_in _ (by omega)
  have HQ4 : Hid (IntKind.u8.wrap (48 + y % 10) = 48 + y % 10) := by unfold Hid; rw [IntKind.wrap_u8]; omega
  clear ih HDD HC h1
  go_enter Tryz.func34, Tryz.ntmps34
  go_wp2_with fail
  refine wp_region_noPanic ?_
  refine wp_region_held_drew (S := (fun w' => Below w.heap.size w w')) (by kernel_rfl) ?_ (fun hHeld => ?_)
  · exact (Below.refl _ _).drew
  refine wpAnyH_take (i := 0) (v := .int .i64 y) rfl (by kernel_rfl) (by kernel_rfl) (by kernel_rfl) (fun _ _ _ h => h) (Or.inl ⟨by rfl, ?_⟩) (by assumption) ?_
  · (intro w1 hSw; (try dsimp only at hSw); go_simp)
  simp only [List.getElem_toArray, List.getElem_cons_zero, Act.put, List.setIfInBounds_toArray, List.set_cons_zero, List.set_cons_succ]
  refine wpAnyH_take (i := 1) (v := .int .i64 (y / 10)) rfl (by kernel_rfl) (by kernel_rfl) (by kernel_rfl) (fun _ _ _ h => h) (Or.inl ⟨by rfl, ?_⟩) (by assumption) ?_
  · (intro w1 hSw; (try dsimp only at hSw); go_simp; exact HQ1.out)
  simp only [List.getElem_toArray, List.getElem_cons_succ, List.getElem_cons_zero, Act.put, List.setIfInBounds_toArray, List.set_cons_zero, List.set_cons_succ]
  refine wpAnyH_take (i := 3) (v := .int .i64 y) rfl (by kernel_rfl) (by kernel_rfl) (by kernel_rfl) (fun _ _ _ h => h) (Or.inl ⟨by rfl, ?_⟩) (by assumption) ?_
  · (intro w1 hSw; (try dsimp only at hSw); go_simp)
  simp only [List.getElem_toArray, List.getElem_cons_succ, List.getElem_cons_zero, Act.put, List.setIfInBounds_toArray, List.set_cons_zero, List.set_cons_succ]
  refine wpAnyH_take (i := 4) (v := .int .i64 (y % 10)) rfl (by kernel_rfl) (by kernel_rfl) (by kernel_rfl) (fun _ _ _ h => h) (Or.inl ⟨by rfl, ?_⟩) (by assumption) ?_
  · (intro w1 hSw; (try dsimp only at hSw); go_simp; exact HQ2.out)
  simp only [List.getElem_toArray, List.getElem_cons_succ, List.getElem_cons_zero, Act.put, List.setIfInBounds_toArray, List.set_cons_zero, List.set_cons_succ]
  refine wpAnyH_take (i := 5) (v := .int .i64 (48 + y % 10)) rfl (by kernel_rfl) (by kernel_rfl) (by kernel_rfl) (fun _ _ _ h => h) (Or.inl ⟨by rfl, ?_⟩) (by assumption) ?_
  · (intro w1 hSw; (try dsimp only at hSw); go_simp; exact HQ3.out)
  simp only [List.getElem_toArray, List.getElem_cons_succ, List.getElem_cons_zero, Act.put, List.setIfInBounds_toArray, List.set_cons_zero, List.set_cons_succ]
  refine wpAnyH_take (i := 6) (v := .int .u8 (48 + y % 10)) rfl (by kernel_rfl) (by kernel_rfl) (by kernel_rfl) (fun _ _ _ h => h) (Or.inl ⟨by rfl, ?_⟩) (by assumption) ?_
  · (intro w1 hSw; (try dsimp only at hSw); go_simp; exact HQ4.out)
  simp only [List.getElem_toArray, List.getElem_cons_succ, List.getElem_cons_zero, Act.put, List.setIfInBounds_toArray, List.set_cons_zero, List.set_cons_succ]
  refine wpAnyH_ready (rs := [2, 7]) (by kernel_rfl) (by simp) ?_
  refine AllReadyH.cons (o := _) rfl (fun K hK => ?_) (AllReadyH.cons (o := _) rfl (fun K hK => ?_) AllReadyH.nil)
  · go_simp
    refine (HIH.out _).mono ?_
    rintro e w1 ⟨rfl, hb1⟩
    have HB1 : Hid (Below w.heap.size w w1) := (Below.refl w.heap.size w).drew.trans hb1
    clear hb1
    refine hK.out _ _ ?_ (fun hHeld => ?_)
    · exact HB1.out
    clear hK K
    refine wpAnyH_ready (rs := [7]) (by kernel_rfl) (by simp) ?_
    refine AllReadyH.cons (o := _) rfl (fun K hK => ?_) AllReadyH.nil
    go_simp
    obtain ⟨W2, HW2⟩ := hid_ex (w1.alloc (.cells #[.int .u8 (48 + y % 10)] 5))
    rw [← HW2.out]
    have HB2 : Hid (Below w.heap.size w W2) := by rw [HW2.out]; exact HB1.out.alloc HB1.out.size _
    have ht : (convert 28 9 (.slice (some ⟨w1.heap.size, 0, none⟩) 1 1)).run Tryz.prog W2 = .ok (.string ⟨[c].toArray⟩) W2 := by rw [HW2.out, ← HBc.out]; exact reads_text (own_reads1 w1 c)
    refine hK.out _ _ ?_ (fun hHeld => ?_)
    · exact HB2.out
    clear hK K
    refine wpAnyH_ready (rs := [8]) (by kernel_rfl) (by simp) ?_
    refine AllReadyH.cons (o := _) rfl (fun K hK => ?_) AllReadyH.nil
    go_simp
    refine hK.out _ _ ?_ (fun hHeld => ?_)
    · exact HB2.out
    clear hK K
    refine wpAnyH_take (i := 9) (v := .string ⟨(D ++ [c]).toArray⟩) rfl (by kernel_rfl) (by kernel_rfl) (by kernel_rfl) (fun _ _ _ h => h) (Or.inl ⟨by rfl, ?_⟩) (by assumption) ?_
    · (intro w1 hSw; (try dsimp only at hSw); go_simp; (rw [if_neg (by omega)]; rfl))
    simp only [List.getElem_toArray, List.getElem_cons_succ, List.getElem_cons_zero, Act.put, List.setIfInBounds_toArray, List.set_cons_zero, List.set_cons_succ]
    refine wpAnyH_take (i := 10) (v := .string ⟨(D ++ [c]).toArray⟩) rfl (by kernel_rfl) (by kernel_rfl) (by kernel_rfl) (fun _ _ _ h => h) (Or.inl ⟨by rfl, ?_⟩) (by assumption) ?_
    · (intro w1 hSw; (try dsimp only at hSw); go_simp)
    simp only [List.getElem_toArray, List.getElem_cons_succ, List.getElem_cons_zero, Act.put, List.setIfInBounds_toArray, List.set_cons_zero, List.set_cons_succ]
    refine wpAnyH_done (by kernel_rfl) ?_ _
    refine NoPanic.normal ?_
    go_wp2_with fail
    go_ret
    exact ⟨by rw [HD.out]; rfl, HB2.out⟩
  · go_simp
    obtain ⟨W1, HW1⟩ := hid_ex (w.alloc (.cells #[.int .u8 (48 + y % 10)] 5)).drew
    rw [← HW1.out]
    have HB1 : Hid (Below w.heap.size w W1) := by rw [HW1.out]; exact ((Below.refl _ _).alloc (Nat.le_refl _) _).drew
    have HR1 : Hid (Reads W1 (.slice (some ⟨w.heap.size, 0, none⟩) 1 1) [c]) := by rw [HW1.out, ← HBc.out]; exact (own_reads1 w c).drew
    refine hK.out _ _ ?_ (fun hHeld => ?_)
    · exact HB1.out
    clear hK K
    refine wpAnyH_ready (rs := [2, 8]) (by kernel_rfl) (by simp) ?_
    refine AllReadyH.cons (o := _) rfl (fun K hK => ?_) (AllReadyH.cons (o := _) rfl (fun K hK => ?_) AllReadyH.nil)
    · go_simp
      refine (HIH.out _).mono ?_
      rintro e w2 ⟨rfl, hb2⟩
      have HB2 : Hid (Below w.heap.size w w2) := HB1.out.trans (hb2.mono HB1.out.size)
      have ht : (convert 28 9 (.slice (some ⟨w.heap.size, 0, none⟩) 1 1)).run Tryz.prog w2 = .ok (.string ⟨[c].toArray⟩) w2 := reads_text (HR1.out.below hb2)
      clear hb2
      refine hK.out _ _ ?_ (fun hHeld => ?_)
      · exact HB2.out
      clear hK K
      refine wpAnyH_ready (rs := [8]) (by kernel_rfl) (by simp) ?_
      refine AllReadyH.cons (o := _) rfl (fun K hK => ?_) AllReadyH.nil
      go_simp
      refine hK.out _ _ ?_ (fun hHeld => ?_)
      · exact HB2.out
      clear hK K
      refine wpAnyH_take (i := 9) (v := .string ⟨(D ++ [c]).toArray⟩) rfl (by kernel_rfl) (by kernel_rfl) (by kernel_rfl) (fun _ _ _ h => h) (Or.inl ⟨by rfl, ?_⟩) (by assumption) ?_
      · (intro w1 hSw; (try dsimp only at hSw); go_simp; (rw [if_neg (by omega)]; rfl))
      simp only [List.getElem_toArray, List.getElem_cons_succ, List.getElem_cons_zero, Act.put, List.setIfInBounds_toArray, List.set_cons_zero, List.set_cons_succ]
      refine wpAnyH_take (i := 10) (v := .string ⟨(D ++ [c]).toArray⟩) rfl (by kernel_rfl) (by kernel_rfl) (by kernel_rfl) (fun _ _ _ h => h) (Or.inl ⟨by rfl, ?_⟩) (by assumption) ?_
      · (intro w1 hSw; (try dsimp only at hSw); go_simp)
      simp only [List.getElem_toArray, List.getElem_cons_succ, List.getElem_cons_zero, Act.put, List.setIfInBounds_toArray, List.set_cons_zero, List.set_cons_succ]
      refine wpAnyH_done (by kernel_rfl) ?_ _
      refine NoPanic.normal ?_
      go_wp2_with fail
      go_ret
      exact ⟨by rw [HD.out]; rfl, HB2.out⟩
    · have ht : (convert 28 9 (.slice (some ⟨w.heap.size, 0, none⟩) 1 1)).run Tryz.prog W1 = .ok (.string ⟨[c].toArray⟩) W1 := reads_text HR1.out
      go_simp
      refine hK.out _ _ ?_ (fun hHeld => ?_)
      · exact HB1.out
      clear hK K
      refine wpAnyH_ready (rs := [2]) (by kernel_rfl) (by simp) ?_
      refine AllReadyH.cons (o := _) rfl (fun K hK => ?_) AllReadyH.nil
      go_simp
      refine (HIH.out _).mono ?_
      rintro e w2 ⟨rfl, hb2⟩
      have HB2 : Hid (Below w.heap.size w w2) := HB1.out.trans (hb2.mono HB1.out.size)
      clear hb2
      refine hK.out _ _ ?_ (fun hHeld => ?_)
      · exact HB2.out
      clear hK K
      refine wpAnyH_take (i := 9) (v := .string ⟨(D ++ [c]).toArray⟩) rfl (by kernel_rfl) (by kernel_rfl) (by kernel_rfl) (fun _ _ _ h => h) (Or.inl ⟨by rfl, ?_⟩) (by assumption) ?_
      · (intro w1 hSw; (try dsimp only at hSw); go_simp; (rw [if_neg (by omega)]; rfl))
      simp only [List.getElem_toArray, List.getElem_cons_succ, List.getElem_cons_zero, Act.put, List.setIfInBounds_toArray, List.set_cons_zero, List.set_cons_succ]
      refine wpAnyH_take (i := 10) (v := .string ⟨(D ++ [c]).toArray⟩) rfl (by kernel_rfl) (by kernel_rfl) (by kernel_rfl) (fun _ _ _ h => h) (Or.inl ⟨by rfl, ?_⟩) (by assumption) ?_
      · (intro w1 hSw; (try dsimp only at hSw); go_simp)
      simp only [List.getElem_toArray, List.getElem_cons_succ, List.getElem_cons_zero, Act.put, List.setIfInBounds_toArray, List.set_cons_zero, List.set_cons_succ]
      refine wpAnyH_done (by kernel_rfl) ?_ _
      refine NoPanic.normal ?_
      go_wp2_with fail
      go_ret
      exact ⟨by rw [HD.out]; rfl, HB2.out⟩
theorem refDigits_any : ∀ (k : Nat) (y : Int), 0 ≤ y → y ≤ 1099511627776 → y.toNat ≤ k → ∀ w, Calls Tryz.prog 34 #[.int .i64 y] w fun e w' => e = .returned (.string ⟨(Lib.decDigits y.toNat).toArray⟩) ∧ Below w.heap.size w w'
  | 0, y, h1, _, h3, w => refDigits_lo y h1 (by omega) w
  | k + 1, y, h1, h2, h3, w => by
    by_cases h : y < 10
    · exact refDigits_lo y h1 h w
    · exact refDigits_hi y (by omega) h2 w (refDigits_any k (y / 10) (by omega) (by omega) (by omega))
set_option maxRecDepth 100000 in
theorem refName_any (p : List UInt8) (hp : p.length ≤ 1000000) (n : Int) (w : World) : Calls Tryz.prog 11 #[.string ⟨p.toArray⟩, .int .i64 n] w fun e w' => e = .returned (.string ⟨(nmF p n).toArray⟩) ∧ Below w.heap.size w w' := by
  by_cases h1 : n < 1
  · have HF : Hid (nmF p n = []) := nmF_no (by omega)
    go_enter Tryz.func11, Tryz.ntmps11
    go_wp2_with fail
    go_ret
    exact ⟨by rw [HF.out]; rfl, Below.refl _ _⟩
  · by_cases h2 : 1099511627776 < n
    · have HF : Hid (nmF p n = []) := nmF_no (by omega)
      go_enter Tryz.func11, Tryz.ntmps11
      go_wp2_with fail
      go_ret
      exact ⟨by rw [HF.out]; rfl, Below.refl _ _⟩
    · have HF : Hid (nmF p n = p ++ Lib.decDigits n.toNat) := nmF_yes (by omega) (by omega)
      have hl := dec_len (n := n.toNat) (by omega)
      have d2 : decide (1099511627776 < n) = false := decide_eq_false h2
      obtain ⟨D, HD⟩ := hid_ex (Lib.decDigits n.toNat)
      have HC : Hid (Calls Tryz.prog 34 #[.int .i64 n] w fun e w' => e = .returned (.string ⟨D.toArray⟩) ∧ Below w.heap.size w w') := by rw [HD.out]; exact refDigits_any n.toNat n (by omega) (by omega) (Nat.le_refl _) w
      rw [← HD.out] at HF hl
      clear HD
      go_enter Tryz.func11, Tryz.ntmps11
      go_wp2_with fail
      refine HC.out.mono ?_
      rintro e w2 ⟨rfl, hb⟩
      go_wp2_with fail
      go_ret
      exact ⟨by rw [HF.out]; rfl, hb⟩
end Go.Proofs.YtahigmjpeicemaaGreatDoor
