/- A row together with no other one is itself, and with empty ones, too. -/
import Derived.Test.YtkifnpaenhpndaaMG18
namespace Go.Proofs.Ytkifnpaenhpndaa
open Go.RowKit Go.Joins

theorem three_lists {w : World} {a b c : Value} {L M N : List En} (ha : EReads w a L) (hb : EReads w b M) (hc : EReads w c N) : RReads (w.alloc (.cells #[a, b, c] 44)) (.slice (some ⟨w.heap.size, 0, none⟩) 3 3) [L, M, N] := by
  have hbl := (Below.refl w.heap.size w).alloc (Nat.le_refl _) (.cells #[a, b, c] 44)
  refine ⟨_, 3, rfl, by simp, by simp [maxLen], .inr ⟨w.heap.size, 0, rfl, by simp, fun j hj => ?_⟩⟩
  have hj2 : j < 3 := hj
  match j, hj2 with
  | 0, _ => exact ⟨a, by rw [cell_of_block (heap_alloc_new _ _)]; rfl, ha.below hbl⟩
  | 1, _ => exact ⟨b, by rw [cell_of_block (heap_alloc_new _ _)]; rfl, hb.below hbl⟩
  | 2, _ => exact ⟨c, by rw [cell_of_block (heap_alloc_new _ _)]; rfl, hc.below hbl⟩
theorem eReads_nil {w : World} {a : Option Addr} {cap : Nat} (h : cap ≤ maxLen) : EReads w (.slice a 0 cap) [] := ⟨a, cap, rfl, by simp, h, .inl rfl⟩
/-- What the rows' guard gives. -/
structure OkRs (rs : List (List En)) : Prop where
  l1 : rs.length ≤ 10000
  l2 : ∀ r ∈ rs, r.length ≤ 100000
  l3 : ∀ r ∈ rs, ∀ x ∈ r, x.1.length ≤ 100000
theorem okRs_of {rs : List (List En)} (h : rs.length ≤ 20 ∧ ∀ r ∈ rs, okRow r) : OkRs rs := ⟨by omega, fun r hr => by have := (h.2 r hr).1; omega, fun r hr x hx => by have := (h.2 r hr).2 x hx; omega⟩
/-- What comes of all rows may be put together again. -/
theorem all_small {rs : List (List En)} (h : rs.length ≤ 20 ∧ ∀ r ∈ rs, okRow r) (h0 : rowsF rs = 0) (hc : ∀ r ∈ rs, ∀ x ∈ r, CnOk x.2) : (allF rs).length ≤ 100000 ∧ ∀ x ∈ allF rs, x.1.length ≤ 100000 := by
  constructor
  · have h1 := grpG_len (seqF rs)
    have h2 : (seqF rs).length ≤ rs.length * 60 := by
      unfold seqF
      rw [(srtG_perm _).length_eq]
      have : ∀ (rs : List (List En)) (i : Nat), (∀ r ∈ rs, okRow r) → (tagsF i rs).length ≤ rs.length * 60 := by
        intro rs
        induction rs with
        | nil => intro i _; simp [tagsF]
        | cons r rs ih =>
          intro i hr
          have h3 := ih (i + 1) (fun r' hr' => hr r' (List.mem_cons_of_mem _ hr'))
          have h4 := (hr r (List.mem_cons_self ..)).1
          unfold tagsF
          rw [List.length_append]
          unfold tagP
          simp
          omega
      exact this rs 0 h.2
    have h5 := h.1
    unfold allF
    omega
  · intro x hx
    obtain ⟨r, hr, y, hy, e⟩ := allF_key h0 hc x hx
    have := (h.2 r hr).2 y hy
    rw [e]; omega
set_option maxRecDepth 100000 in
set_option maxHeartbeats 2000000 in
theorem alone_walk (v : Value) (rs : List (List En)) (w : World) (hR : RReads w v rs) : Calls Try.prog 8 #[v] w fun e w' => e = .returned (.bool true) ∧ Below w.heap.size w w' := by
  have HR : Hid (RReads w v rs) := hR
  have HCN : Hid _ := rReads_cn hR
  obtain ⟨av, cv, rfl, _⟩ := hR
  go_enter Try.func8, Try.ntmps8
  go_wp2_with fail
  refine (great_any _ rs _ HR.out).mono ?_
  rintro e w1 ⟨gg, rfl, hgg, hw1⟩
  subst hw1
  cases gg with
  | true =>
    go_wp2_with fail
    refine (alive_any _).mono ?_
    rintro e w2 ⟨rfl, hb2⟩
    have HB2 : Hid _ := hb2
    clear hb2
    go_wp2_with fail
    go_ret
    exact ⟨rfl, HB2.out⟩
  | false =>
    have HG : Hid (rs.length ≤ 20 ∧ ∀ r ∈ rs, okRow r) := hgg rfl
    have HOK : Hid (OkRs rs) := okRs_of HG.out
    clear hgg
    go_wp2_with fail
    refine (all_some _ rs _ HR.out HOK.out.l1 HOK.out.l2 HOK.out.l3).mono ?_
    rintro e w2 ⟨hb2, ⟨hne, rfl⟩ | ⟨hz, l, xs, rfl, ho, hm, hc⟩⟩
    · have HB2 : Hid _ := hb2
      have hb0 : (rowsF rs == 0) = false := by simp [hne]
      clear hb2 hne
      generalize rowsF rs = rr at *
      go_wp2_with fail
      refine (alive_any _).mono ?_
      rintro e w3 ⟨rfl, hb3⟩
      have HB3 : Hid (Below w1.heap.size w1 w3) := HB2.out.trans (hb3.mono HB2.out.size)
      clear hb3
      go_wp2_with fail
      go_ret
      exact ⟨rfl, HB3.out⟩
    · have HB2 : Hid (Below w1.heap.size w1 w2) := hb2
      have HZ : Hid _ := hz
      have HE2 : Hid (EReads w2 l (allF rs)) := by have h9 := ho.reads hc; rw [hm] at h9; exact h9
      have HD2 : Hid (ERd w2 l (allF rs)) := by have h9 := ho.rd; rw [hm] at h9; exact h9
      have HSM : Hid _ := all_small HG.out HZ.out HCN.out
      have HAL : Hid _ := allF_alone (allF_row HZ.out HCN.out)
      obtain ⟨la, lc, rfl, _, _⟩ := HE2.out.form
      clear hb2 hz ho hm hc
      obtain ⟨n, Hn⟩ := hid_ex (allF rs).length
      rw [← Hn.out] at HE2 HD2 ⊢
      go_wp2_with fail
      obtain ⟨w3, HW3⟩ := hid_ex ((w2.alloc (.cells #[] 41)).alloc (.cells #[.slice none 0 0, .slice la n lc, .slice (some ⟨w2.heap.size, 0, none⟩) 0 0] 44))
      have hb3 : Below w2.heap.size w2 w3 := by rw [HW3.out]; exact ((Below.refl w2.heap.size w2).alloc (Nat.le_refl _) _).alloc (by simp) _
      have HR3 : Hid (RReads w3 (.slice (some ⟨w2.heap.size + 1, 0, none⟩) 3 3) [[], allF rs, []]) := by
        have h9 := three_lists (w := w2.alloc (.cells #[] 41)) (eReads_nil (a := none) (cap := 0) (by simp [maxLen])) (HE2.out.below ((Below.refl w2.heap.size w2).alloc (Nat.le_refl _) _)) (eReads_nil (a := some ⟨w2.heap.size, 0, none⟩) (cap := 0) (by simp [maxLen]))
        rw [World.size_alloc] at h9
        rw [HW3.out]
        exact h9
      have HB3 : Hid (Below w1.heap.size w1 w3) := HB2.out.trans (hb3.mono HB2.out.size)
      have HD3 : Hid (ERd w3 (.slice la n lc) (allF rs)) := HD2.out.below hb3
      rw [← HW3.out]
      clear hb3 HW3 HB2 HE2 HD2
      refine (all_some _ [[], allF rs, []] _ HR3.out (by simp) (fun r hr => ?_) (fun r hr x hx => ?_)).mono ?_
      · simp only [List.mem_cons, List.not_mem_nil, or_false] at hr
        rcases hr with rfl | rfl | rfl
        · simp
        · exact HSM.out.1
        · simp
      · simp only [List.mem_cons, List.not_mem_nil, or_false] at hr
        rcases hr with rfl | rfl | rfl
        · cases hx
        · exact HSM.out.2 x hx
        · cases hx
      rintro e w4 ⟨hb4, ⟨hne, _⟩ | ⟨_, l2, ys, rfl, ho4, hm4, hc4⟩⟩
      · exact absurd HAL.out.1 hne
      · rw [HAL.out.2] at hm4
        have HB4 : Hid (Below w1.heap.size w1 w4) := HB3.out.trans (hb4.mono HB3.out.size)
        have HD4 : Hid (ERd w4 (.slice la n lc) (allF rs)) := HD3.out.below hb4
        have HY4 : Hid (ERd w4 l2 (allF rs)) := by have h9 := ho4.rd; rw [hm4] at h9; exact h9
        obtain ⟨ya, yc, rfl, _⟩ := HY4.out
        rw [← Hn.out] at HY4 ⊢
        clear hb4 ho4 hm4 hc4 HB3 HD3
        go_wp2_with fail
        refine (alive_any _).mono ?_
        rintro e w5 ⟨rfl, hb5⟩
        have HB5 : Hid (Below w1.heap.size w1 w5) := HB4.out.trans (hb5.mono HB4.out.size)
        have HD5 : Hid (ERd w5 (.slice la n lc) (allF rs)) := HD4.out.below hb5
        have HY5 : Hid (ERd w5 (.slice ya n yc) (allF rs)) := HY4.out.below hb5
        clear hb5 HB4 HD4 HY4
        go_wp2_with fail
        refine (same_true _ _ (allF rs) _ HD5.out HY5.out).mono ?_
        rintro e w6 ⟨rfl, hb6⟩
        have HB6 : Hid (Below w1.heap.size w1 w6) := HB5.out.trans (hb6.mono HB5.out.size)
        clear hb6
        go_wp2_with fail
        go_ret
        exact ⟨rfl, HB6.out⟩
end Go.Proofs.Ytkifnpaenhpndaa
