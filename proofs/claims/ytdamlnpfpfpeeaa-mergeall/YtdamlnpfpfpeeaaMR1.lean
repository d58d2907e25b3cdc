/- The reference of layer 14: Right, Row, Rows. -/
import Derived.Test.YtdamlnpfpfpeeaaMG23
import Derived.Test.YtdamlnpfpfpeeaaMG10
import Derived.BigQuiet
import Derived.Deep.QuietTactic
namespace Go.Proofs.Ytdamlnpfpfpeeaa
open Go.RowKit

set_option maxRecDepth 100000 in
set_option maxHeartbeats 1000000 in
theorem refRight_any (a : Ag) (w : World) :
    Calls Try.prog 32 #[.agg #[.int .u64 a.c, .bool a.o, .int .i64 (hi a.s), .int .u64 (lo a.s), .int .i64 a.mn, .int .i64 a.mx]] w fun e w' => e = .returned (.bool (rightB a)) ∧ Below w.heap.size w w' := by
  obtain ⟨R, HR⟩ := hid_ex (rightB a)
  rw [← HR.out]
  go_enter Try.func32, Try.ntmps32
  go_wp2_with fail
  all_goals go_ret
  all_goals refine ⟨?_, (Below.refl _ _).alloc (Nat.le_refl _) _⟩
  all_goals (rw [HR.out]; unfold rightB; simp_all)
theorem eReads_ptr {w : World} {a : Option Addr} {n cap : Nat} {L : List En} (h : EReads w (.slice a n cap) L) (h0 : 0 < L.length) : ∃ b off, a = some ⟨b, off, none⟩ := by
  obtain ⟨b, off, cap', hv, hb⟩ := eReads_some h h0
  simp at hv
  exact ⟨b, off, hv.1⟩
theorem rReads_ptr {w : World} {a : Option Addr} {n cap : Nat} {rs : List (List En)} (h : RReads w (.slice a n cap) rs) (h0 : 0 < rs.length) : ∃ b off, a = some ⟨b, off, none⟩ := by
  obtain ⟨b, off, cap', hv, hb⟩ := rReads_some h h0
  simp at hv
  exact ⟨b, off, hv.1⟩
theorem rowF_right {L : List En} (h : (keysE L).Pairwise ltK) : rowF L = if L.all (fun x => rightB x.2) then 0 else 3 := by
  unfold rowF
  rw [if_neg (fun q => q h)]
set_option maxRecDepth 100000 in
set_option maxHeartbeats 2000000 in
theorem refRow_any (v : Value) (L : List En) (w : World) (hE : EReads w v L) :
    Calls Try.prog 24 #[v] w fun e w' => e = .returned (.int .i64 (rowF L)) ∧ Below w.heap.size w w' := by
  obtain ⟨va, cap, rfl, hm1, hm2⟩ := hE.form
  have HE : Hid (EReads w (.slice va L.length cap) L) := hE
  unfold maxLen at hm2
  clear hE
  go_enter Try.func24, Try.ntmps24
  go_wp2_with fail
  go_loopw [3] (fun i wr => ∃ k : Nat, i = .int .i64 ((k : Int) + 1) ∧ k ≤ L.length ∧ (0 < L.length → k < L.length) ∧ Hid ((keysE L).take (k + 1) |>.Pairwise ltK) ∧ Hid (Below w.heap.size w wr)) (fun i _ => L.length - (intOf i).toNat)
  case atStart => exact ⟨0, rfl, by omega, fun h => h, by
    rcases hk : keysE L with _ | ⟨x, r⟩
    · exact List.Pairwise.nil
    · exact List.pairwise_singleton _ _, Below.refl _ _⟩
  case round =>
    obtain ⟨k, rfl, hk, hk2, HP, HB⟩ := hrel
    by_cases hlt : k + 1 < L.length
    · obtain ⟨b, off, rfl⟩ := eReads_ptr HE.out (by omega)
      obtain ⟨kv, hc, hR, _⟩ := eReads_at (HE.out.below HB.out) (k := k) (by omega) rfl
      obtain ⟨kv', hc', hR', _⟩ := eReads_at (HE.out.below HB.out) hlt rfl
      have HPN : Hid (ltK (L[k]'(by omega)).1 (L[k + 1]'hlt).1 → ((keysE L).take (k + 1 + 1)).Pairwise ltK) := fun h => pw_snoc (by unfold keysE; simpa using hlt) HP.out (fun _ => by simpa [keysE] using h)
      have HBD : Hid (¬ ltK (L[k]'(by omega)).1 (L[k + 1]'hlt).1 → rowF L = 50) := fun h => rowF_bad hlt (by omega) (by simpa using h)
      obtain ⟨Y, HY⟩ := hid_ex (L[k]'(by omega)).1
      obtain ⟨X, HX⟩ := hid_ex (L[k + 1]'hlt).1
      rw [← HY.out] at hR HPN HBD
      rw [← HX.out] at hR' HPN HBD
      have c0 := hc 0 (by decide)
      have d0 := hc' 0 (by decide)
      simp only [c7, List.getElem_cons_zero, Nat.add_zero] at c0 d0
      obtain ⟨ay, cy, rfl, _⟩ := hR.form
      obtain ⟨ax, cx, rfl, _⟩ := hR'.form
      have hq1 : ∀ n, (convert 29 9 (.slice ay Y.length cy)).run Try.prog (wr.drewN n) = .ok (.string ⟨Y.toArray⟩) (wr.drewN n) := fun n => reads_text (hR.below (below_drewN (Below.refl _ _) n))
      have hq2 : ∀ n, (convert 29 9 (.slice ax X.length cx)).run Try.prog (wr.drewN n) = .ok (.string ⟨X.toArray⟩) (wr.drewN n) := fun n => reads_text (hR'.below (below_drewN (Below.refl _ _) n))
      clear hc hc' hR hR' HY HX
      by_cases hl : ltK Y X
      · have hle : Op.bytesLess Y X = true := (less_iff _ _).2 hl
        have HPP : Hid _ := HPN.out hl
        clear HBD HPN hl
        go_wp2_with fail
        go_quiet (fail)
        have HB2 : Hid (Below w.heap.size w (wr.drewN nq)) := below_drewN HB.out nq
        clear hq1 hq2 c0 d0
        go_wp2_with fail
        go_roundw
        case rel => exact ⟨k + 1, by go_num, by omega, fun _ => hlt, HPP.out, HB2.out⟩
        case measure => simp [intOf]; omega
      · have hle : Op.bytesLess Y X = false := less_no hl
        have HPP : Hid _ := HBD.out hl
        clear HBD HPN hl
        go_wp2_with fail
        go_quiet (fail)
        have HB2 : Hid (Below w.heap.size w (wr.drewN nq)) := below_drewN HB.out nq
        clear hq1 hq2 c0 d0
        go_wp2_with fail
        go_ret
        exact ⟨by rw [HPP.out]; rfl, HB2.out⟩
    · have HPW : Hid ((keysE L).Pairwise ltK) := by
        have h1 := HP.out
        rw [List.take_of_length_le (by unfold keysE; simp; omega)] at h1
        exact h1
      clear HP
      go_wp2_with fail
      go_loopw [4] (fun i wq => ∃ m : Nat, m ≤ L.length ∧ i = .int .i64 (m : Int) ∧ Hid (∀ x ∈ L.take m, rightB x.2 = true) ∧ Hid (Below w.heap.size w wq)) (fun i _ => L.length - (intOf i).toNat)
      case atStart => exact ⟨0, by omega, rfl, fun x hx => (by cases hx), HB.out⟩
      case round =>
        clear HB
        obtain ⟨m, hm, rfl, HM, HB⟩ := hrel
        by_cases hml : m < L.length
        · obtain ⟨b, off, rfl⟩ := eReads_ptr HE.out (by omega)
          obtain ⟨kv, hc, _, _⟩ := eReads_at (HE.out.below HB.out) hml rfl
          have HNX : Hid (rightB L[m].2 = true → ∀ x ∈ L.take (m + 1), rightB x.2 = true) := fun h x hx => by
            rw [List.take_succ_eq_append_getElem hml] at hx
            rcases List.mem_append.1 hx with hx | hx
            · exact HM.out x hx
            · obtain rfl : x = L[m] := by simpa using hx
              exact h
          have HBX : Hid (rightB L[m].2 = false → rowF L = 3) := fun h => by
            rw [rowF_right HPW.out, if_neg (fun q => ?_)]
            have := List.all_eq_true.1 q _ (List.getElem_mem hml)
            rw [h] at this; cases this
          obtain ⟨X, HX⟩ := hid_ex L[m]
          rw [← HX.out] at hc HNX HBX
          have c1 := hc (1 + 0) (by decide)
          have c2 := hc (1 + 1) (by decide)
          have c3 := hc (1 + 2) (by decide)
          have c4 := hc (1 + 3) (by decide)
          have c5 := hc (1 + 4) (by decide)
          have c6 := hc (1 + 5) (by decide)
          simp only [c7, List.getElem_cons_zero, List.getElem_cons_succ, Nat.add_zero, Nat.reduceAdd] at c1 c2 c3 c4 c5 c6
          clear hc HX
          go_wp2_with fail
          refine (refRight_any X.2 _).mono ?_
          rintro e w2 ⟨rfl, hb2⟩
          have HB2 : Hid (Below w.heap.size w w2) := HB.out.trans (hb2.mono HB.out.size)
          clear hb2 c1 c2 c3 c4 c5 c6
          cases hrb : rightB X.2 with
          | true =>
            have HN2 : Hid _ := HNX.out hrb
            clear hrb HNX HBX
            go_wp2_with fail
            go_roundw
            case rel => exact ⟨m + 1, by omega, by go_num, HN2.out, HB2.out⟩
            case measure => simp [intOf]; omega
          | false =>
            have HN2 : Hid _ := HBX.out hrb
            clear hrb HNX HBX
            go_wp2_with fail
            go_ret
            exact ⟨by rw [HN2.out]; rfl, HB2.out⟩
        · have HN2 : Hid (rowF L = 0) := by
            unfold Hid
            rw [rowF_right HPW.out, if_pos (List.all_eq_true.2 (fun x hx => HM.out x (by rw [List.take_of_length_le (by omega)]; exact hx)))]
          go_wp2_with fail
          go_ret
          exact ⟨by rw [HN2.out]; rfl, HB.out⟩
theorem rowsF_take {rs : List (List En)} (h : ∀ r ∈ rs, rowF r = 0) : rowsF rs = 0 := rowsF_ok.2 h
theorem rowsF_at : ∀ {rs : List (List En)} {k : Nat} (hk : k < rs.length), (∀ r ∈ rs.take k, rowF r = 0) → rowF (rs[k]'hk) ≠ 0 → rowsF rs = rowF (rs[k]'hk)
  | r :: rs, 0, _, _, h => by unfold rowsF; exact if_neg h
  | r :: rs, k + 1, hk, h1, h => by
    unfold rowsF
    rw [if_pos (h1 r (by simp))]
    exact rowsF_at (by simpa using hk) (fun x hx => h1 x (by simp [hx])) h
set_option maxRecDepth 100000 in
set_option maxHeartbeats 2000000 in
theorem refRows_any (v : Value) (rs : List (List En)) (w : World) (hR : RReads w v rs) :
    Calls Try.prog 13 #[v] w fun e w' => e = .returned (.int .i64 (rowsF rs)) ∧ Below w.heap.size w w' := by
  have HR : Hid (RReads w v rs) := hR
  obtain ⟨av, cv, rfl, hl1, hl2, _⟩ := hR
  unfold maxLen at hl2
  go_enter Try.func13, Try.ntmps13
  go_wp2_with fail
  go_loopw [3] (fun i wr => ∃ k : Nat, k ≤ rs.length ∧ i = .int .i64 (k : Int) ∧ Hid (∀ r ∈ rs.take k, rowF r = 0) ∧ Hid (Below w.heap.size w wr)) (fun i _ => rs.length - (intOf i).toNat)
  case atStart => exact ⟨0, by omega, rfl, fun x hx => (by cases hx), Below.refl _ _⟩
  case round =>
    obtain ⟨k, hk, rfl, HM, HB⟩ := hrel
    by_cases hlt : k < rs.length
    · obtain ⟨b, off, rfl⟩ := rReads_ptr HR.out (by omega)
      obtain ⟨ev, hcv, hev⟩ := rReads_at (HR.out.below HB.out) hlt
      have HEV : Hid _ := hev
      obtain ⟨ea, ec, rfl, _, _⟩ := hev.form
      have HNX : Hid (rowF rs[k] = 0 → ∀ r ∈ rs.take (k + 1), rowF r = 0) := fun h x hx => by
        rw [List.take_succ_eq_append_getElem hlt] at hx
        rcases List.mem_append.1 hx with hx | hx
        · exact HM.out x hx
        · obtain rfl : x = rs[k] := by simpa using hx
          exact h
      have HBX : Hid (rowF rs[k] ≠ 0 → rowsF rs = rowF rs[k]) := fun h => rowsF_at hlt HM.out h
      have HCR : Hid (∀ w, EReads w (.slice ea rs[k].length ec) rs[k] → Calls Try.prog 24 #[.slice ea rs[k].length ec] w fun e w' => e = .returned (.int .i64 (rowF rs[k])) ∧ Below w.heap.size w w') := fun w h => refRow_any _ _ w h
      obtain ⟨rr, Hrr⟩ := hid_ex (rowF rs[k])
      rw [← Hrr.out] at HNX HBX HCR
      clear hev Hrr
      go_wp2_with fail
      refine (HCR.out _ HEV.out).mono ?_
      rintro e w2 ⟨rfl, hb2⟩
      have HB2 : Hid (Below w.heap.size w w2) := HB.out.trans (hb2.mono HB.out.size)
      clear hb2 hcv HEV HCR
      by_cases h0 : rr = 0
      · have HN2 : Hid _ := HNX.out h0
        subst h0
        clear HNX HBX
        go_wp2_with fail
        go_roundw
        case rel => exact ⟨k + 1, by omega, by go_num, HN2.out, HB2.out⟩
        case measure => simp [intOf]; omega
      · have HN2 : Hid _ := HBX.out h0
        have hb0 : (rr == 0) = false := by simpa using h0
        clear HNX HBX
        go_wp2_with fail
        go_ret
        exact ⟨by rw [HN2.out]; rfl, HB2.out⟩
    · have HN2 : Hid (rowsF rs = 0) := rowsF_take (fun r hr => HM.out r (by rw [List.take_of_length_le (by omega)]; exact hr))
      go_wp2_with fail
      go_ret
      exact ⟨by rw [HN2.out]; rfl, HB.out⟩
end Go.Proofs.Ytdamlnpfpfpeeaa
