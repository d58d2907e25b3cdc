/- WNs, joined. -/
import Derived.Test.YtahigmjpeicemaaGreatDoorNA14
/- The reference's Number; the walk of WalNames. -/
namespace Go.Proofs.YtahigmjpeicemaaGreatDoor
open Go.RowKit Go.Shelf

theorem num_digits {p s : List UInt8} {m : Int} (h1 : 1 ≤ m) (h2 : m ≤ 1099511627776) (h : s = nmF p m) : s.drop p.length = Lib.decDigits m.toNat ∧ p.length ≤ s.length ∧ s.length ≤ p.length + 13 := by
  have hl := dec_len (n := m.toNat) (by omega)
  rw [h, nmF_yes h1 h2, List.drop_left, List.length_append]
  exact ⟨rfl, by omega, by omega⟩
theorem num_bad {p s : List UInt8} {k : Nat} (hk : k < (s.drop p.length).length) (hc : ¬ (48 ≤ ((s.drop p.length)[k]).toNat ∧ ((s.drop p.length)[k]).toNat ≤ 57)) : NumP p s 0 false :=
  .inr ⟨rfl, rfl, fun m h1 h2 e => hc (by
    have hd := (num_digits h1 h2 e).1
    exact dec_digit m.toNat _ (by rw [← hd]; exact List.getElem_mem hk))⟩
theorem num_end {p s : List UInt8} {k : Nat} (hk : (s.drop p.length).length ≤ k ∨ k = 14) (h : dvF ((s.drop p.length).take k) < 1 ∨ nmF p (dvF ((s.drop p.length).take k) : Int) ≠ s) : NumP p s 0 false :=
  .inr ⟨rfl, rfl, fun m h1 h2 e => by
    obtain ⟨hd, hl1, hl2⟩ := num_digits h1 h2 e
    have hdl : (s.drop p.length).length ≤ 13 := by rw [List.length_drop]; omega
    have ht : (s.drop p.length).take k = s.drop p.length := List.take_of_length_le (by omega)
    rw [ht, hd, dvF_dec] at h
    rcases h with h | h
    · omega
    · exact h (by rw [e]; congr 1; omega)⟩
theorem num_yes {p s : List UInt8} {n : Nat} (h1 : ¬ n < 1) (h : nmF p (n : Int) = s) (hn : s = [] → n < 1) : NumP p s (n : Int) true := by
  by_cases hv : (n : Int) ≤ 1099511627776
  · exact .inl ⟨rfl, by omega, hv, h.symm⟩
  · rw [nmF_no (by omega)] at h
    exact absurd (hn h.symm) h1
def NuPost (p s : List UInt8) (w : World) (e : Ending) (w' : World) : Prop := ∃ n ok, e = .returned (.tuple #[.int .i64 n, .bool ok]) ∧ NumP p s n ok ∧ Below w.heap.size w w'
set_option maxRecDepth 100000 in
set_option maxHeartbeats 4000000 in
theorem refNumber_any (p s : List UInt8) (hp : p.length ≤ 100000) (hs : s.length ≤ 100000) (w : World) :
    Calls Tryz.prog 9 #[.string ⟨p.toArray⟩, .string ⟨s.toArray⟩] w (NuPost p s w) := by
  obtain ⟨P, HP⟩ := hid_ex (⟨p.toArray⟩ : ByteArray)
  obtain ⟨S, HS⟩ := hid_ex (⟨s.toArray⟩ : ByteArray)
  have hPs : P.size = p.length := by rw [HP.out]; exact len_sz
  have hSs : S.size = s.length := by rw [HS.out]; exact len_sz
  have HG : Hid (∀ k (h : k < S.size) (h' : k < s.length), S[k] = s[k]) := by
    intro k h h'
    have : S = ⟨s.toArray⟩ := HS.out
    subst this
    rfl
  rw [← HP.out, ← HS.out]
  have hp' : P.size ≤ 100000 := by omega
  have hs' : S.size ≤ 100000 := by omega
  have HPs : Hid (P.size = p.length) := hPs
  have HSs : Hid (S.size = s.length) := hSs
  clear hPs hSs hp hs
  go_enter Tryz.func9, Tryz.ntmps9
  go_wp2_with fail
  go_loop [6, 7] (fun a i => ∃ (k : Nat) (v : Nat) (j : Nat), k ≤ 14 ∧ Hid (v = dvF ((s.drop p.length).take k)) ∧ v < 100000000000000 ∧ a = .int .i64 (v : Int) ∧ i = .int .i64 (j : Int) ∧ Hid (j = P.size + k) ∧ (k = 0 ∨ j ≤ S.size) ∧ Hid (∀ c ∈ (s.drop p.length).take k, 48 ≤ c.toNat ∧ c.toNat ≤ 57)) (fun _ i => S.size - (intOf i).toNat)
  case atStart => exact ⟨0, 0, P.size, by omega, by simp [Hid, dvF], by omega, rfl, rfl, by simp [Hid], .inl rfl, by simp [Hid]⟩
  case round =>
    obtain ⟨k, v, j, hk, HV, hv, rfl, rfl, HJ, hj, HD⟩ := hrel
    have hj1 := HJ.out
    by_cases hc : j < S.size ∧ k < 14
    · obtain ⟨hc1, hc2⟩ := hc
      have hss := HSs.out
      have hps := HPs.out
      have hkl : k < (s.drop p.length).length := by rw [List.length_drop]; omega
      obtain ⟨c, HC⟩ := hid_ex S[j]
      have HCs : Hid (c = (s.drop p.length)[k]) := by
        unfold Hid
        rw [HC.out, HG.out j hc1 (by omega), List.getElem_drop]
        congr 1
        omega
      have i1 : (j : Int) < (P.size : Int) + 14 := by omega
      have hcb := c.toNat_lt
      by_cases hlo : c.toNat < 48
      · have HN : Hid (NumP p s 0 false) := num_bad hkl (by rw [← HCs.out]; omega)
        have l1 : (c.toNat : Int) < 48 := by omega
        rw [HC.out] at l1
        clear hj1 hss hps HJ
        go_wp2_with fail
        go_ret2
        exact ⟨_, _, rfl, HN.out, Below.refl _ _⟩
      · by_cases hhi : 57 < c.toNat
        · have HN : Hid (NumP p s 0 false) := num_bad hkl (by rw [← HCs.out]; omega)
          have l1 : ¬ (c.toNat : Int) < 48 := by omega
          have l2 : (57 : Int) < (c.toNat : Int) := by omega
          rw [HC.out] at l1 l2
          clear hj1 hss hps HJ
          go_wp2_with fail
          go_ret2
          exact ⟨_, _, rfl, HN.out, Below.refl _ _⟩
        · obtain ⟨v2, HV2⟩ := hid_ex (v * 10 + (c.toNat - 48))
          have HVn : Hid (v2 = dvF ((s.drop p.length).take (k + 1))) := by
            unfold Hid
            rw [HV2.out, List.take_succ_eq_append_getElem hkl, dvF_snoc, ← HV.out, ← HCs.out]
          have HDn : Hid (∀ c ∈ (s.drop p.length).take (k + 1), 48 ≤ c.toNat ∧ c.toNat ≤ 57) := by
            intro x hx
            rw [List.take_succ_eq_append_getElem hkl] at hx
            rcases List.mem_append.1 hx with hx | hx
            · exact HD.out x hx
            · rw [List.mem_singleton.1 hx, ← HCs.out]
              omega
          have hv2 : v2 < 100000000000000 := by
            rw [HVn.out]
            exact dvF_lt 14 _ (by rw [List.length_take]; omega) HDn.out
          have l1 : ¬ (c.toNat : Int) < 48 := by omega
          have l2 : ¬ (57 : Int) < (c.toNat : Int) := by omega
          have l3 : decide ((57 : Int) < (c.toNat : Int)) = false := decide_eq_false l2
          have HE : Hid ((10 * (v : Int) + (c.toNat : Int)) - 48 = (v2 : Int)) := by
            unfold Hid; rw [HV2.out]; omega
          have b1 : 0 ≤ (c.toNat : Int) := by omega
          have b2 : (c.toNat : Int) ≤ 255 := by omega
          rw [HC.out] at l1 l2 l3 HE b1 b2
          clear hj1 hss hps HV2 HCs hcb hlo hhi
          go_wp2_with fail
          go_round
          case rel => exact ⟨k + 1, v2, j + 1, by omega, HVn, hv2, congrArg (Value.int .i64) HE.out, by go_num, by have := HJ.out; unfold Hid; omega, .inr (by omega), HDn⟩
          case measure => simp [intOf]; omega
    · have HEnd : Hid ((s.drop p.length).length ≤ k ∨ k = 14) := by
        have h1 := HPs.out
        have h2 := HSs.out
        unfold Hid
        rw [List.length_drop]
        by_cases h : k = 14
        · exact .inr h
        · left; have : ¬ j < S.size := fun h' => hc ⟨h', by omega⟩; omega
      have HSn : Hid (s = [] → v < 1) := by
        intro h
        rw [HV.out, h]
        simp [dvF]
      obtain ⟨NM, HNM⟩ := hid_ex (nmF p (v : Int))
      have HNC : Hid (∀ w, Calls Tryz.prog 11 #[.string P, .int .i64 (v : Int)] w fun e w' => e = .returned (.string ⟨NM.toArray⟩) ∧ Below w.heap.size w w') := by
        intro w
        rw [HNM.out, HP.out]
        exact refName_any p (by have := HPs.out; omega) _ w
      by_cases hj2 : (j : Int) < (S.size : Int)
      · have i1 : ¬ (j : Int) < (P.size : Int) + 14 := by have := HJ.out; omega
        have d1 : decide ((j : Int) < (P.size : Int) + 14) = false := decide_eq_false i1
        by_cases hv1 : (v : Int) < 1
        · have HN : Hid (NumP p s 0 false) := num_end HEnd.out (.inl (by rw [← HV.out]; omega))
          clear hc hj1
          go_wp2_with fail
          go_ret2
          exact ⟨_, _, rfl, HN.out, Below.refl _ _⟩
        · clear hc hj1
          have dv1 : decide ((v : Int) < 1) = false := decide_eq_false hv1
          go_wp2_with fail
          refine (HNC.out _).mono ?_
          rintro e w1 ⟨rfl, hb1⟩
          by_cases hq : NM = s
          · have HN : Hid (NumP p s (v : Int) true) := num_yes (by omega) (HNM.out.symm.trans hq) HSn.out
            have hSq : S = ⟨NM.toArray⟩ := by rw [hq]; exact HS.out
            subst hSq
            go_wp2_with fail
            go_ret2
            exact ⟨_, _, rfl, HN.out, hb1⟩
          · have HN : Hid (NumP p s 0 false) := num_end HEnd.out (.inr (by rw [← HV.out, ← HNM.out]; exact hq))
            have hq2 : (NM != S.toList) = true := by
              have e : S.toList = s := by rw [HS.out, ByteArray.toList_eq]
              rw [e]; simpa using hq
            have hq1 : (NM == S.toList) = false := by
              have e : S.toList = s := by rw [HS.out, ByteArray.toList_eq]
              rw [e]; simpa using hq
            go_wp2_with fail
            go_ret2
            exact ⟨_, _, rfl, HN.out, hb1⟩
      · have d1 : decide ((j : Int) < (S.size : Int)) = false := decide_eq_false hj2
        by_cases hv1 : (v : Int) < 1
        · have HN : Hid (NumP p s 0 false) := num_end HEnd.out (.inl (by rw [← HV.out]; omega))
          clear hc hj1
          go_wp2_with fail
          go_ret2
          exact ⟨_, _, rfl, HN.out, Below.refl _ _⟩
        · clear hc hj1
          have dv1 : decide ((v : Int) < 1) = false := decide_eq_false hv1
          go_wp2_with fail
          refine (HNC.out _).mono ?_
          rintro e w1 ⟨rfl, hb1⟩
          by_cases hq : NM = s
          · have HN : Hid (NumP p s (v : Int) true) := num_yes (by omega) (HNM.out.symm.trans hq) HSn.out
            have hSq : S = ⟨NM.toArray⟩ := by rw [hq]; exact HS.out
            subst hSq
            go_wp2_with fail
            go_ret2
            exact ⟨_, _, rfl, HN.out, hb1⟩
          · have HN : Hid (NumP p s 0 false) := num_end HEnd.out (.inr (by rw [← HV.out, ← HNM.out]; exact hq))
            have hq2 : (NM != S.toList) = true := by
              have e : S.toList = s := by rw [HS.out, ByteArray.toList_eq]
              rw [e]; simpa using hq
            have hq1 : (NM == S.toList) = false := by
              have e : S.toList = s := by rw [HS.out, ByteArray.toList_eq]
              rw [e]; simpa using hq
            go_wp2_with fail
            go_ret2
            exact ⟨_, _, rfl, HN.out, hb1⟩
theorem num_uni {p s : List UInt8} {n m : Int} {a b : Bool} (h : NumP p s n a) (h' : NumP p s m b) : n = m ∧ a = b := by
  rcases h with ⟨h1, h2, h3, h4⟩ | ⟨h1, h2, h3⟩ <;> rcases h' with ⟨g1, g2, g3, g4⟩ | ⟨g1, g2, g3'⟩
  · exact ⟨nmF_inj h2 h3 g2 g3 (h4.symm.trans g4), h1.trans g1.symm⟩
  · exact absurd h4 (g3' n h2 h3)
  · exact absurd g4 (h3 m g2 g3)
  · exact ⟨h2.trans g2.symm, h1.trans g1.symm⟩
set_option maxRecDepth 100000 in
set_option maxHeartbeats 4000000 in
theorem names_walk (P S : ByteArray) (n : Int) (W : World) (hP : P.size ≤ maxLen) (hS : S.size ≤ maxLen) (hT : Tb W) (hE : Er W) :
    Calls Tryz.prog 3 #[.string P, .string S, .int .i64 n] W fun e w' => e = .returned (.bool true) ∧ Below W.heap.size W w' := by
  obtain ⟨p, Hp⟩ := hid_ex P.data.toList
  obtain rfl : P = ⟨p.toArray⟩ := by rw [Hp.out]
  obtain ⟨s, Hs⟩ := hid_ex S.data.toList
  obtain rfl : S = ⟨s.toArray⟩ := by rw [Hs.out]
  have hPl : (⟨p.toArray⟩ : ByteArray).size = p.length := len_sz
  have hSl : (⟨s.toArray⟩ : ByteArray).size = s.length := len_sz
  have hpm : (p.length : Int) ≤ 9223372036854775807 := by simp only [maxLen] at hP; omega
  have hsm : (s.length : Int) ≤ 9223372036854775807 := by simp only [maxLen] at hS; omega
  have HT : Hid (Tb W) := hT
  have HE : Hid (Er W) := hE
  clear Hp Hs hP hS hPl hSl hT hE
  by_cases h1 : (100 : Int) < (p.length : Int)
  · go_enter Tryz.func3, Tryz.ntmps3
    go_wp2_with fail
    refine (alive12_any _).mono ?_
    rintro e w9 ⟨rfl, hb9⟩
    go_wp2_with fail
    go_ret
    exact ⟨rfl, hb9⟩
  · by_cases h2 : (200 : Int) < (s.length : Int)
    · go_enter Tryz.func3, Tryz.ntmps3
      go_wp2_with fail
      refine (alive12_any _).mono ?_
      rintro e w9 ⟨rfl, hb9⟩
      go_wp2_with fail
      go_ret
      exact ⟨rfl, hb9⟩
    · have d2 : decide ((200 : Int) < (s.length : Int)) = false := decide_eq_false h2
      have hpl : p.length ≤ 100 := by omega
      have hsl : s.length ≤ 200 := by omega
      have HPl : Hid (p.length ≤ 100) := hpl
      have HSl : Hid ((p ++ s).length ≤ 300) := by unfold Hid; rw [List.length_append]; omega
      obtain ⟨NM, HNM⟩ := hid_ex (nmF p n)
      go_enter Tryz.func3, Tryz.ntmps3
      go_wp2_with fail
      refine (walNumber_any p (p ++ s) (by have := HPl.out; omega) (by have := HSl.out; omega) W HT.out HE.out).mono ?_
      rintro e w1 ⟨a, b, rfl, hn1, hb1⟩
      have HN1 : Hid (NumP p (p ++ s) a b) := hn1
      have HB1 : Hid (Below W.heap.size W w1) := hb1
      clear hn1 hb1
      go_wp2_with fail
      refine (refNumber_any p (p ++ s) (by have := HPl.out; omega) (by have := HSl.out; omega) w1).mono ?_
      rintro e w2 ⟨a', b', rfl, hn2, hb2⟩
      have HB2 : Hid (Below W.heap.size W w2) := HB1.out.trans (hb2.mono HB1.out.size)
      obtain ⟨rfl, rfl⟩ := num_uni HN1.out hn2
      clear hn2 hb2 HN1 HB1
      go_wp2_with fail
      refine (alive12_any _).mono ?_
      rintro e w3 ⟨rfl, hb3⟩
      have HB3 : Hid (Below W.heap.size W w3) := HB2.out.trans (hb3.mono HB2.out.size)
      clear hb3 HB2
      go_wp2_with fail
      refine (name_any p (by have := HPl.out; omega) n w3 (.inr (HT.out.below HB3.out))).mono ?_
      rintro e w4 ⟨rfl, hb4⟩
      rw [← HNM.out]
      have HB4 : Hid (Below W.heap.size W w4) := HB3.out.trans (hb4.mono HB3.out.size)
      clear hb4 HB3
      go_wp2_with fail
      refine (refName_any p (by have := HPl.out; omega) n w4).mono ?_
      rintro e w5 ⟨rfl, hb5⟩
      rw [← HNM.out]
      have HB5 : Hid (Below W.heap.size W w5) := HB4.out.trans (hb5.mono HB4.out.size)
      clear hb5 HB4
      go_wp2_with fail
      go_ret
      exact ⟨by first | rfl | simp, HB5.out⟩
end Go.Proofs.YtahigmjpeicemaaGreatDoor
