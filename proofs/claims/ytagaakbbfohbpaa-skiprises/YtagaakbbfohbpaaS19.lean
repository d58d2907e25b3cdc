/- In which order entries are put is of no matter. -/
import Derived.Test.YtagaakbbfohbpaaS17
namespace Go.Proofs.Ytagaakbbfohbpaa
open Go.RowKit

/-- A count that may be. -/
def CntOk (a : Ag) : Prop := 0 ≤ a.c ∧ a.c < 18446744073709551616
theorem okE_c {x : En} (h : okE x = true) (ha : AgOk x.2) : 0 < x.2.c ∧ x.2.c < 18446744073709551616 := by
  unfold okE at h
  simp at h
  have h1 := ha.c1
  have h2 := ha.c2
  exact ⟨by omega, h2⟩
theorem minF_comm (a b : Int) : minF a b = minF b a := by unfold minF; split <;> split <;> omega
theorem maxF_comm (a b : Int) : maxF a b = maxF b a := by unfold maxF; split <;> split <;> omega
theorem minF_rot (a b c : Int) : minF (minF a b) c = minF (minF a c) b := by unfold minF; (repeat' split) <;> omega
theorem maxF_rot (a b c : Int) : maxF (maxF a b) c = maxF (maxF a c) b := by unfold maxF; (repeat' split) <;> omega
theorem mrg_comm {a b : Ag} (ha : 0 < a.c) (hb : 0 < b.c) : mrg a b = mrg b a := by
  rw [mrg_both a b (by omega) (by omega), mrg_both b a (by omega) (by omega)]
  have e1 : cntF a.c b.c = cntF b.c a.c := by unfold cntF; rw [Int.add_comm]
  have e2 : (ovF a.c b.c || a.o || b.o) = (ovF b.c a.c || b.o || a.o) := by
    unfold ovF; rw [Int.add_comm]; cases a.o <;> cases b.o <;> simp
  rw [e1, e2, Int.add_comm a.s, minF_comm a.mn, maxF_comm a.mx]
theorem cnt_pos {a b : Int} (ha : 0 < a) (hb : 0 < b) : 0 < cntF a b := by unfold cntF; split <;> omega
theorem mrg_rot {z x y : Ag} (hz : 0 < z.c ∧ z.c < 18446744073709551616) (hx : 0 < x.c ∧ x.c < 18446744073709551616) (hy : 0 < y.c ∧ y.c < 18446744073709551616) : mrg (mrg z x) y = mrg (mrg z y) x := by
  rw [mrg_both z x (by omega) (by omega), mrg_both z y (by omega) (by omega)]
  have p1 := cnt_pos hz.1 hx.1
  have p2 := cnt_pos hz.1 hy.1
  rw [mrg_both _ y (by dsimp only; omega) (by omega), mrg_both _ x (by dsimp only; omega) (by omega)]
  dsimp only
  have e1 : cntF (cntF z.c x.c) y.c = cntF (cntF z.c y.c) x.c := by unfold cntF; split <;> split <;> split <;> (try split) <;> omega
  have e2 : (ovF (cntF z.c x.c) y.c || (ovF z.c x.c || z.o || x.o) || y.o) = (ovF (cntF z.c y.c) x.c || (ovF z.c y.c || z.o || y.o) || x.o) := by
    unfold ovF cntF
    cases z.o <;> cases x.o <;> cases y.o <;> simp
    rw [Bool.eq_iff_iff]
    simp
    split <;> split <;> omega
  have e3 : z.s + x.s + y.s = z.s + y.s + x.s := by omega
  rw [e1, e2, e3, minF_rot, maxF_rot]
/-- One step of 'what is known'. -/
theorem mrg_swap {z x y : Ag} (hz : CntOk z) (hx : 0 < x.c ∧ x.c < 18446744073709551616) (hy : 0 < y.c ∧ y.c < 18446744073709551616) : mrg (mrg z x) y = mrg (mrg z y) x := by
  by_cases h : z.c = 0
  · have e1 : mrg z x = x := by unfold mrg; rw [if_pos h]
    have e2 : mrg z y = y := by unfold mrg; rw [if_pos h]
    rw [e1, e2]; exact mrg_comm hx.1 hy.1
  · exact mrg_rot ⟨by have := hz.1; omega, hz.2⟩ hx hy
theorem mrg_cnt {a b : Ag} (ha : CntOk a) (hb : CntOk b) : CntOk (mrg a b) := by
  unfold CntOk mrg at *
  split
  · exact hb
  · split
    · exact ha
    · dsimp only; unfold cntF; split <;> omega
theorem fold_perm {M M' : List En} (hp : M.Perm M') (k : Ks) : (∀ x ∈ M, 0 < x.2.c ∧ x.2.c < 18446744073709551616) → ∀ z, CntOk z →
    M.foldl (fun s x => if x.1 = k then mrg s x.2 else s) z = M'.foldl (fun s x => if x.1 = k then mrg s x.2 else s) z := by
  induction hp with
  | nil => intro _ z _; rfl
  | cons x p ih =>
    intro h z hz
    rw [List.foldl_cons, List.foldl_cons]
    refine ih (fun y hy => h y (List.mem_cons_of_mem _ hy)) _ ?_
    have hx := h x List.mem_cons_self
    split
    · exact mrg_cnt hz ⟨by omega, hx.2⟩
    · exact hz
  | swap x y l =>
    intro h z hz
    have hx := h x (by simp)
    have hy := h y (by simp)
    simp only [List.foldl_cons]
    congr 1
    by_cases h1 : x.1 = k <;> by_cases h2 : y.1 = k <;> simp only [h1, h2, if_true, if_false]
    exact mrg_swap hz hy hx
  | trans p1 p2 i1 i2 =>
    intro h z hz
    rw [i1 h z hz, i2 (fun x hx => h x (p1.mem_iff.2 hx)) z hz]
theorem knE_perm {M M' : List En} (hp : M.Perm M') (h : ∀ x ∈ M, 0 < x.2.c ∧ x.2.c < 18446744073709551616) (k : Ks) : knE M k = knE M' k := fold_perm hp k h agZ ⟨by decide, by decide⟩
theorem hasE_perm {M M' : List En} (hp : M.Perm M') (k : Ks) : hasE M k = hasE M' k := by
  unfold hasE
  rw [Bool.eq_iff_iff, List.any_eq_true, List.any_eq_true]
  exact ⟨fun ⟨x, h1, h2⟩ => ⟨x, hp.mem_iff.1 h1, h2⟩, fun ⟨x, h1, h2⟩ => ⟨x, hp.mem_iff.2 h1, h2⟩⟩
/-- Entries in order are told by what is known of each key. -/
theorem srt_ext : ∀ {A B : List En}, srt A → srt B → (∀ k, lkE A k = lkE B k) → A = B
  | [], [], _, _, _ => rfl
  | [], y :: B, _, _, h => by have := h y.1; rw [lkE_cons] at this; simp [lkE] at this
  | x :: A, [], _, _, h => by have := h x.1; rw [lkE_cons] at this; simp [lkE] at this
  | x :: A, y :: B, hA, hB, h => by
    unfold srt keysE at hA hB
    rw [List.map_cons, List.pairwise_cons] at hA hB
    have nA : ∀ {k}, (k = x.1 ∨ ltK k x.1) → lkE A k = none := fun {k} hk => lkE_none fun z hz => by
      have h1 := hA.1 z.1 (List.mem_map_of_mem hz)
      rcases hk with rfl | hk
      · exact (ltK_ne h1).symm
      · exact (ltK_ne (ltK_trans hk h1)).symm
    have nB : ∀ {k}, (k = y.1 ∨ ltK k y.1) → lkE B k = none := fun {k} hk => lkE_none fun z hz => by
      have h1 := hB.1 z.1 (List.mem_map_of_mem hz)
      rcases hk with rfl | hk
      · exact (ltK_ne h1).symm
      · exact (ltK_ne (ltK_trans hk h1)).symm
    have hxy : x.1 = y.1 := by
      by_cases hn : x.1 = y.1
      · exact hn
      · exfalso
        by_cases hl : ltK x.1 y.1
        · have := h x.1
          rw [lkE_cons, lkE_cons, if_pos rfl, if_neg (Ne.symm hn), nB (.inr hl)] at this
          cases this
        · rcases not_ltK.1 hl with h1 | h1
          · exact hn h1
          · have := h y.1
            rw [lkE_cons, lkE_cons, if_pos rfl, if_neg hn, nA (.inr h1)] at this
            cases this
    have h2 : x.2 = y.2 := by
      have := h x.1
      rw [lkE_cons, lkE_cons, if_pos rfl, if_pos hxy.symm] at this
      exact Option.some.inj this
    have h3 : A = B := srt_ext hA.2 hB.2 fun k => by
      have h4 := h k
      rw [lkE_cons, lkE_cons, ← hxy] at h4
      by_cases hk : x.1 = k
      · rw [nA (.inl hk.symm), nB (.inl (by rw [← hxy]; exact hk.symm))]
      · rw [if_neg hk, if_neg hk] at h4; exact h4
    rw [h3, Prod.ext hxy h2]
theorem putL_perm {M M' : List En} (hp : M.Perm M') (h : ∀ x ∈ M, 0 < x.2.c ∧ x.2.c < 18446744073709551616) : putL [] M = putL [] M' :=
  srt_ext (putL_srt M) (putL_srt M') fun k => by rw [putL_lk, putL_lk, knE_perm hp h, hasE_perm hp]
/-- A rotation is an order of the same entries. -/
theorem rot_eq (L : List En) (t : Nat) : rot L t = L.drop (t % L.length) ++ L.take (t % L.length) := by
  by_cases h0 : L.length = 0
  · have : L = [] := List.length_eq_zero_iff.1 h0
    subst this; simp [rot]
  · have hm : t % L.length < L.length := Nat.mod_lt _ (by omega)
    apply List.ext_getElem
    · simp [rot_len]; omega
    · intro j h1 h2
      rw [rot_len] at h1
      have hj : (j + t) % L.length < L.length := Nat.mod_lt _ (by omega)
      have e1 : (rot L t)[j]'(by rw [rot_len]; exact h1) = L[(j + t) % L.length] := by
        simp [rot, List.getD, hj]
      rw [e1]
      have e2 : (j + t) % L.length = (j + t % L.length) % L.length := by rw [Nat.add_mod_mod]
      by_cases hlt : j < (L.drop (t % L.length)).length
      · rw [List.getElem_append_left hlt, List.getElem_drop]
        have : (j + t) % L.length = t % L.length + j := by
          rw [List.length_drop] at hlt
          rw [e2, Nat.mod_eq_of_lt (by omega)]; omega
        simp only [this]
      · rw [List.getElem_append_right (by omega), List.getElem_take]
        have hl2 := hlt
        rw [List.length_drop] at hl2
        have : (j + t) % L.length = j - (L.drop (t % L.length)).length := by
          rw [List.length_drop, e2, show j + t % L.length = (j - (L.length - t % L.length)) + L.length by omega, Nat.add_mod_right, Nat.mod_eq_of_lt (by omega)]
        simp only [this]
theorem rot_perm (L : List En) (t : Nat) : (rot L t).Perm L := by
  rw [rot_eq]
  have := List.perm_append_comm (l₁ := L.drop (t % L.length)) (l₂ := L.take (t % L.length))
  rwa [List.take_append_drop] at this
theorem putL_rot {L : List En} (t : Nat) (h : L.all okE = true) (ha : ∀ x ∈ L, AgOk x.2) : putL [] (rot L t) = putL [] L :=
  putL_perm (rot_perm L t) fun x hx => okE_c (List.all_eq_true.1 h x ((rot_perm L t).mem_iff.1 hx)) (ha x ((rot_perm L t).mem_iff.1 hx))
end Go.Proofs.Ytagaakbbfohbpaa
