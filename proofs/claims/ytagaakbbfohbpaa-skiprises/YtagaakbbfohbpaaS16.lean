/- The contract of layer 8's 'put'. -/
import Derived.Test.YtagaakbbfohbpaaOE
import Derived.BigRegion
namespace Go.Proofs.Ytagaakbbfohbpaa
open Go.RowKit

/-- Entries are put, one behind the other. -/
def putL (E : List En) (M : List En) : List En := M.foldl (fun E x => putE E x.1 x.2) E
/-- May it be put? -/
def okE (x : En) : Bool := decide (1 ≤ x.1.length ∧ x.1.length ≤ 256 ∧ x.2.c ≠ 0 ∧ rightB x.2 = true)
theorem mp_ok {h : Int} (h1 : 1 ≤ h) (h2 : h ≤ 8) (x : En) : (mpF false h x.1.length x.2 = 0) ↔ okE x = true := by
  unfold mpF okE
  rw [if_neg (by omega), if_neg (by simp)]
  by_cases e1 : x.1.length < 1 ∨ 256 < x.1.length
  · rw [if_pos e1]; simp; omega
  · rw [if_neg e1]
    by_cases e2 : x.2.c = 0 ∨ rightB x.2 = false
    · rw [if_pos e2]; simp; intro _ _ h3
      rcases e2 with e2 | e2
      · exact absurd e2 h3
      · exact e2
    · rw [if_neg e2]
      have e3 : ¬ x.2.c = 0 := fun h => e2 (.inl h)
      have e4 : rightB x.2 = true := by
        cases hr : rightB x.2
        · exact absurd (.inr hr) e2
        · rfl
      simp [e3, e4]; omega
theorem putE_len (E : List En) (k : Ks) (a : Ag) : (putE E k a).length ≤ E.length + 1 := by
  unfold putE
  split
  · split
    · rw [List.length_set]; omega
    · simp; omega
  · simp
theorem putL_len (M : List En) : ∀ E, (putL E M).length ≤ E.length + M.length := by
  induction M with
  | nil => intro E; simp [putL]
  | cons x M ih => intro E; have := ih (putE E x.1 x.2); have h2 := putE_len E x.1 x.2; simp only [putL, List.foldl_cons, List.length_cons] at *; omega
/-- The entries in the order in which 'put' takes them. -/
def rot (L : List En) (t : Nat) : List En := (List.range L.length).map fun j => L.getD ((j + t) % L.length) ([], agZ)
theorem rot_len (L : List En) (t : Nat) : (rot L t).length = L.length := by simp [rot]
theorem rot_zero (L : List En) : rot L 0 = L := by
  apply List.ext_getElem
  · exact rot_len L 0
  · intro j h1 h2; simp [rot, List.getD, Nat.mod_eq_of_lt h2, h2]
theorem rot_step' {L : List En} {t k : Nat} (hk : k < L.length) : (rot L t).take (k + 1) = (rot L t).take k ++ [L[(k + t) % L.length]'(Nat.mod_lt _ (by omega))] := by
  rw [List.take_add_one]
  congr 1
  have h1 : (k + t) % L.length < L.length := Nat.mod_lt _ (by omega)
  simp [rot, hk, List.getD, h1]
theorem rot_step {L : List En} {t k : Nat} (hk : k < L.length) : putL [] ((rot L t).take (k + 1)) = putE (putL [] ((rot L t).take k)) (L[(k + t) % L.length]'(Nat.mod_lt _ (by omega))).1 (L[(k + t) % L.length]'(Nat.mod_lt _ (by omega))).2 := by
  rw [rot_step' hk, putL, List.foldl_append]; rfl
theorem rot_all {L : List En} {t : Nat} (h : ∀ x ∈ rot L t, okE x = true) : L.all okE = true := by
  rw [List.all_eq_true]
  intro x hx
  obtain ⟨i, hi, rfl⟩ := List.getElem_of_mem hx
  apply h
  unfold rot
  rw [List.mem_map]
  refine ⟨(i + (L.length - t % L.length)) % L.length, List.mem_range.2 (Nat.mod_lt _ (by omega)), ?_⟩
  have e : ((i + (L.length - t % L.length)) % L.length + t) % L.length = i := by
    have h1 : t % L.length < L.length := Nat.mod_lt _ (by omega)
    rw [Nat.mod_add_mod, Nat.add_mod _ t, Nat.mod_add_mod, show i + (L.length - t % L.length) + t % L.length = i + L.length by omega, Nat.add_mod_right, Nat.mod_eq_of_lt hi]
  rw [e]
  simp [List.getD, hi]
theorem bad_no {L : List En} {i : Nat} (hi : i < L.length) (h : ¬ okE L[i] = true) : L.all okE = false := by
  cases e : L.all okE
  · rfl
  · exact absurd (List.all_eq_true.1 e _ (List.getElem_mem hi)) h
theorem long_no {L : List En} {i : Nat} (hi : i < L.length) (h : (1000 : Int) < (L[i].1.length : Int)) : L.all okE = false := bad_no hi (by
  unfold okE
  simp
  omega)
theorem hgt8' : ∀ n : Fin 256, 1 ≤ wrap64 (1 + wrap64 (bits .and .u8 (n.val : Int) 7)) ∧ wrap64 (1 + wrap64 (bits .and .u8 (n.val : Int) 7)) ≤ 8 := by decide +kernel
theorem hgt8 (x : UInt8) : 1 ≤ wrap64 (1 + wrap64 (bits .and .u8 (x.toNat : Int) 7)) ∧ wrap64 (1 + wrap64 (bits .and .u8 (x.toNat : Int) 7)) ≤ 8 := hgt8' ⟨x.toNat, UInt8.toNat_lt x⟩
theorem hgtv (x : UInt8) : ∃ n : Int, wrap64 (1 + wrap64 (bits .and .u8 (x.toNat : Int) 7)) = n ∧ 1 ≤ n ∧ n ≤ 8 := ⟨_, rfl, hgt8 x⟩
set_option maxRecDepth 100000 in
set_option maxHeartbeats 1000000 in
theorem put8_any (v : Value) (L : List En) (hv : Value) (hs : List UInt8) (t : Nat) (ht : t ≤ 1023) (hL : L.length ≤ 100) (w : World) (hE : EReads w v L) (hH : Reads w hv hs) :
    Calls Try.prog 24 #[v, hv, .int .i64 (t : Int)] w fun e w' => Below w.heap.size w w' ∧ ((∃ L0, e = .returned (.pointer (some ⟨L0, 0, none⟩)) ∧ SK w' w.heap.size L0 (putL [] (rot L t)) false ∧ L.all okE = true) ∨ (e = .returned (.pointer none) ∧ L.all okE = false)) := by
  have HE : Hid (EReads w v L) := hE
  have HH : Hid (Reads w hv hs) := hH
  obtain ⟨a, cap, rfl, hcap, hm, hE3⟩ := hE
  obtain ⟨ah, ch, rfl, _⟩ := hH.form
  unfold maxLen at hm
  have HE3 : Hid _ := hE3
  clear hE3 hH
  go_enter Try.func24, Try.ntmps24
  go_wp2_with fail
  refine (new_any _).mono ?_
  rintro e w1 ⟨L0, rfl, hs1, hb1⟩
  have HS1 : Hid (SK w1 w.heap.size L0 (putL [] ((rot L t).take 0)) false) := hs1
  have HB1 : Hid (Below w.heap.size w w1) := hb1
  clear hs1 hb1
  go_wp2_with fail
  go_loopw [8] (fun i wr => ∃ k : Nat, k ≤ L.length ∧ i = .int .i64 (k : Int) ∧ Hid (SK wr w.heap.size L0 (putL [] ((rot L t).take k)) false) ∧ Hid (Below w.heap.size w wr) ∧ Hid (∀ x ∈ (rot L t).take k, okE x = true)) (fun i _ => L.length - (intOf i).toNat)
  case atStart => exact ⟨0, by omega, rfl, HS1, HB1, fun x hx => by simp at hx⟩
  case round =>
    obtain ⟨k, hk, rfl, HS, HB, HO⟩ := hrel
    clear HS1 HB1
    by_cases hlt : k < L.length
    · obtain ⟨bA, oA, rfl, hbA, hA⟩ := HE3.out.resolve_left (fun h => by rw [h] at hlt; simp at hlt)
      have HA : Hid _ := hA
      obtain ⟨kvk, hck, hRk, _⟩ := hA k hlt
      have q0 : wr.cell? ⟨bA, oA + k * 7, none⟩ = some kvk := by
        have h1 := hck 0 (by decide)
        rw [show oA + (7 * k + 0) = oA + k * 7 by omega] at h1
        exact (HB.out.cell (p := ⟨bA, oA + k * 7, none⟩) hbA).trans h1
      obtain ⟨ak, ck, rfl, _⟩ := hRk.form
      clear hA hck
      have hmod : (k + t) % L.length < L.length := Nat.mod_lt _ (by omega)
      obtain ⟨kvm, hcm, hRm, hAm⟩ := HA.out _ hmod
      obtain ⟨X, HX⟩ := hid_ex L[(k + t) % L.length]
      rw [← HX.out] at hRm hAm hcm
      have HRm : Hid (Reads wr kvm X.1) := hRm.below HB.out
      have hq : ∀ i (hi : i < 7), wr.cell? ⟨bA, oA + (k + t) % L.length * 7 + i, none⟩ = some ((c7 ⟨kvm, X.1, X.2⟩)[i]'hi) := fun i hi => by
        rw [show oA + (k + t) % L.length * 7 + i = oA + (7 * ((k + t) % L.length) + i) by omega]
        exact (HB.out.cell (p := ⟨bA, _, none⟩) hbA).trans (hcm i hi)
      have c0 := hq 0 (by decide)
      have c1 := hq 1 (by decide)
      have c2 := hq 2 (by decide)
      have c3 := hq 3 (by decide)
      have c4 := hq 4 (by decide)
      have c5 := hq 5 (by decide)
      have c6 := hq 6 (by decide)
      simp only [c7, List.getElem_cons_zero, List.getElem_cons_succ, Nat.add_zero] at c0 c1 c2 c3 c4 c5 c6
      clear hq hcm
      have hm1 : (0 : Int) ≤ ((k : Int) + (t : Int)) % (L.length : Int) := Int.emod_nonneg _ (by omega)
      have hm2 : ((k : Int) + (t : Int)) % (L.length : Int) < (L.length : Int) := Int.emod_lt_of_pos _ (by omega)
      by_cases hh : k < hs.length
      · obtain ⟨bH, oH, rfl, hbH, hcH⟩ := HH.out.at k hh
        have h0 := (HB.out.cell (p := ⟨bH, oH + k, none⟩) hbH).trans hcH
        unfold bc at h0
        by_cases g1 : (1000 : Int) < (L[k].1.length : Int)
        · go_wp2_with fail
          go_ret
          refine ⟨HB.out, .inr ⟨rfl, long_no hlt g1⟩⟩
        · go_wp2_with fail
          obtain ⟨hgt, eH, hg1, hg2⟩ := hgtv hs[k]
          rw [eH]
          clear eH
          refine (put_any _ _ _ _ _ _ _ _ _ HB.out.size HS.out HRm.out ⟨hAm.c1, hAm.c2⟩ (by have := putL_len ((rot L t).take k) []; simp [rot_len] at this; omega)).mono ?_
          rintro e w2 ⟨rfl, hs2, hb2, _⟩
          have HB2 : Hid (Below w.heap.size w w2) := HB.out.trans hb2
          clear hb2
          by_cases hok : mpF false hgt X.1.length X.2 = 0
          · rw [if_pos hok] at hs2
            have HS2 : Hid (SK w2 w.heap.size L0 (putL [] ((rot L t).take (k + 1))) false) := by rw [rot_step hlt, ← HX.out]; exact hs2
            have HO2 : Hid (∀ x ∈ (rot L t).take (k + 1), okE x = true) := by
              rw [rot_step' hlt, ← HX.out]
              intro x hx
              rcases List.mem_append.1 hx with hx | hx
              · exact HO.out x hx
              · simp at hx; subst hx; exact (mp_ok hg1 hg2 _).1 hok
            clear hs2 HS HB HO c0 c1 c2 c3 c4 c5 c6 q0
            go_wp2_with fail
            go_roundw
            case rel => exact ⟨k + 1, by omega, by go_num, HS2, HB2, HO2⟩
            case measure => simp [intOf]; omega
          · go_wp2_with fail
            go_ret
            exact ⟨HB2.out, .inr ⟨rfl, bad_no hmod (by rw [← HX.out]; exact fun h => hok ((mp_ok hg1 hg2 _).2 h))⟩⟩
      · by_cases g1 : (1000 : Int) < (L[k].1.length : Int)
        · go_wp2_with fail
          go_ret
          refine ⟨HB.out, .inr ⟨rfl, long_no hlt g1⟩⟩
        · go_wp2_with fail
          refine (put_any _ _ _ _ _ _ _ _ _ HB.out.size HS.out HRm.out ⟨hAm.c1, hAm.c2⟩ (by have := putL_len ((rot L t).take k) []; simp [rot_len] at this; omega)).mono ?_
          rintro e w2 ⟨rfl, hs2, hb2, _⟩
          have HB2 : Hid (Below w.heap.size w w2) := HB.out.trans hb2
          clear hb2
          by_cases hok : mpF false 1 X.1.length X.2 = 0
          · rw [if_pos hok] at hs2
            have HS2 : Hid (SK w2 w.heap.size L0 (putL [] ((rot L t).take (k + 1))) false) := by rw [rot_step hlt, ← HX.out]; exact hs2
            have HO2 : Hid (∀ x ∈ (rot L t).take (k + 1), okE x = true) := by
              rw [rot_step' hlt, ← HX.out]
              intro x hx
              rcases List.mem_append.1 hx with hx | hx
              · exact HO.out x hx
              · simp at hx; subst hx; exact (mp_ok (by decide) (by decide) _).1 hok
            clear hs2 HS HB HO c0 c1 c2 c3 c4 c5 c6 q0
            go_wp2_with fail
            go_roundw
            case rel => exact ⟨k + 1, by omega, by go_num, HS2, HB2, HO2⟩
            case measure => simp [intOf]; omega
          · go_wp2_with fail
            go_ret
            exact ⟨HB2.out, .inr ⟨rfl, bad_no hmod (by rw [← HX.out]; exact fun h => hok ((mp_ok (by decide) (by decide) _).2 h))⟩⟩
    · go_wp2_with fail
      go_ret
      have hk2 : k = L.length := by omega
      subst hk2
      rw [List.take_of_length_le (by rw [rot_len]; omega)] at HS HO
      exact ⟨HB.out, .inl ⟨L0, rfl, HS.out, rot_all HO.out⟩⟩
end Go.Proofs.Ytagaakbbfohbpaa
