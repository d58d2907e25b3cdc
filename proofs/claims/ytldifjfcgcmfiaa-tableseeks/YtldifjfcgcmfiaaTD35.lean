/- TL3 TLo, joined. -/
import Derived.Test.YtldifjfcgcmfiaaTD33
import Derived.Test.YtldifjfcgcmfiaaTD34
/- law10: a table that is turned in one byte is none. -/
namespace Go.Proofs.Ytldifjfcgcmfiaa
open Go.RowKit

theorem xz {c d : Nat} (h : c ^^^ d = 0) : c = d := by
  have := congrArg (· ^^^ d) h
  simpa [Nat.xor_assoc] using this
theorem mem_pre {α : Type} {A : List α} {p q r x : α} (h : x ∈ A ++ [p, q]) : x ∈ A ++ [p, q, r] := by
  rcases List.mem_append.1 h with h | h
  · exact List.mem_append_left _ h
  · refine List.mem_append_right _ ?_
    simp only [List.mem_cons, List.not_mem_nil, or_false] at h ⊢
    rcases h with h | h
    · exact .inl h
    · exact .inr (.inl h)
theorem reg_inj (l : List UInt8) : ∀ {c d : Nat}, c < 4294967296 → d < 4294967296 → reg c l = reg d l → c = d := by
  induction l with
  | nil => intro c d _ _ h; exact h
  | cons x l ih =>
    intro c d hc hd h
    have h1 := ih (byt_lt (x := x) hc) (byt_lt (x := x) hd) h
    unfold byt at h1
    have h2 : stps 8 ((c ^^^ x.toNat) ^^^ (d ^^^ x.toNat)) = 0 := by rw [stps_xor, h1, Nat.xor_self]
    rw [xor4] at h2
    by_cases h3 : c ^^^ d = 0
    · exact xz h3
    · exact absurd h2 (stps_ne 8 (xor_lt32 hc hd) h3)
theorem byt_inj {c : Nat} {x y : UInt8} (h : byt c x = byt c y) : x = y := by
  unfold byt at h
  have hx := x.toNat_lt
  have hy := y.toNat_lt
  have h2 : stps 8 ((c ^^^ x.toNat) ^^^ (c ^^^ y.toNat)) = 0 := by rw [stps_xor, h, Nat.xor_self]
  rw [Nat.xor_comm c, Nat.xor_comm c, xor4] at h2
  by_cases h3 : x.toNat ^^^ y.toNat = 0
  · exact UInt8.toNat_inj.1 (xz h3)
  · exact absurd h2 (stps_ne 8 (xor_lt32 (by omega) (by omega)) h3)
theorem mor_one {p q : List UInt8} {x y : UInt8} (h : mor 0 (p ++ x :: q) = mor 0 (p ++ y :: q)) : x = y := by
  unfold mor at h
  have h1 := reg_lt (p ++ x :: q) (c := 4294967295 - 0) (by omega)
  have h2 := reg_lt (p ++ y :: q) (c := 4294967295 - 0) (by omega)
  have h3 : reg (4294967295 - 0) (p ++ x :: q) = reg (4294967295 - 0) (p ++ y :: q) := by omega
  rw [reg_append, reg_append, reg_cons, reg_cons] at h3
  have h4 := reg_lt p (c := 4294967295 - 0) (by omega)
  exact byt_inj (reg_inj q (byt_lt h4) (byt_lt h4) h3)
/-- Of the same length, and alike but perhaps at one place. -/
def Di (i : Nat) (a b : List UInt8) : Prop := a.length = b.length ∧ ∀ k, k ≠ i → a[k]? = b[k]?
theorem Di.left {i : Nat} {a b c d : List UInt8} (h : Di i (a ++ b) (c ++ d)) (hl : a.length = c.length) : Di i a c := by
  refine ⟨hl, fun k hk => ?_⟩
  by_cases hlt : k < a.length
  · have := h.2 k hk
    rw [List.getElem?_append_left hlt, List.getElem?_append_left (by omega)] at this
    exact this
  · rw [List.getElem?_eq_none (by omega), List.getElem?_eq_none (by omega)]
theorem Di.right {i : Nat} {a b c d : List UInt8} (h : Di i (a ++ b) (c ++ d)) (hl : a.length = c.length) (hi : a.length ≤ i) : Di (i - a.length) b d := by
  refine ⟨?_, fun k hk => ?_⟩
  · have := h.1; simp only [List.length_append] at this; omega
  · have := h.2 (a.length + k) (by omega)
    rw [List.getElem?_append_right (by omega), List.getElem?_append_right (by omega), Nat.add_sub_cancel_left, ← hl, Nat.add_sub_cancel_left] at this
    exact this
theorem Di.leftE {i : Nat} {a b c d : List UInt8} (h : Di i (a ++ b) (c ++ d)) (hl : a.length = c.length) (hi : a.length ≤ i) : a = c := by
  apply List.ext_getElem? 
  intro k
  by_cases hlt : k < a.length
  · exact (h.left hl).2 k (by omega)
  · rw [List.getElem?_eq_none (by omega), List.getElem?_eq_none (by omega)]
theorem Di.rightE {i : Nat} {a b c d : List UInt8} (h : Di i (a ++ b) (c ++ d)) (hl : a.length = c.length) (hi : i < a.length) : b = d := by
  apply List.ext_getElem?
  intro k
  have := h.2 (a.length + k) (by omega)
  rw [List.getElem?_append_right (by omega), List.getElem?_append_right (by omega), Nat.add_sub_cancel_left, ← hl, Nat.add_sub_cancel_left] at this
  exact this
theorem four_inj {n m : Nat} (hn : n < 4294967296) (hm : m < 4294967296) (h : four n = four m) : n = m := by
  have := congrArg vle h
  rw [vle_four' n hn, vle_four' m hm] at this
  exact this
theorem Di.one {i : Nat} {a b : List UInt8} (h : Di i a b) (hne : a ≠ b) : ∃ p q x y, a = p ++ x :: q ∧ b = p ++ y :: q := by
  by_cases hi : i < a.length
  · have hi' : i < b.length := by have := h.1; omega
    refine ⟨a.take i, a.drop (i + 1), a[i], b[i], ?_, ?_⟩
    · rw [← List.drop_eq_getElem_cons hi, List.take_append_drop]
    · have e1 : a.take i = b.take i := by
        apply List.ext_getElem?
        intro k
        rw [List.getElem?_take, List.getElem?_take]
        by_cases hk : k < i
        · rw [if_pos hk, if_pos hk]; exact h.2 k (by omega)
        · rw [if_neg hk, if_neg hk]
      have e2 : a.drop (i + 1) = b.drop (i + 1) := by
        apply List.ext_getElem?
        intro k
        rw [List.getElem?_drop, List.getElem?_drop]
        exact h.2 _ (by omega)
      rw [e1, e2, ← List.drop_eq_getElem_cons hi', List.take_append_drop]
  · exfalso
    apply hne
    apply List.ext_getElem?
    intro k
    by_cases hk : k = i
    · subst hk; rw [List.getElem?_eq_none (by omega), List.getElem?_eq_none (by have := h.1; omega)]
    · exact h.2 k hk
/-- A frame of the same length that is turned in one byte is no frame. -/
theorem frm_di {x y : List UInt8} (hl : x.length = y.length) {i : Nat} (h : Di i (frm x) (frm y)) : frm x = frm y := by
  unfold frm at h ⊢
  have hl4 : (four x.length ++ x).length = (four y.length ++ y).length := by simp [four_len, hl]
  by_cases hi : i < (four x.length ++ x).length
  · have hc := h.rightE hl4 hi
    have hc2 := four_inj (mor_lt _ _) (mor_lt _ _) hc
    have hd := h.left hl4
    by_cases he : four x.length ++ x = four y.length ++ y
    · rw [he]
    · obtain ⟨p, q, u, w, e1, e2⟩ := hd.one he
      rw [e1, e2] at hc2
      have := mor_one hc2
      exact absurd (by rw [e1, e2, this]) he
  · have := h.leftE hl4 (by omega)
    rw [this]
theorem cat_di : ∀ (L M : List (List UInt8)) (i : Nat), L.map List.length = M.map List.length → Di i (cat L) (cat M) → cat L = cat M
  | [], [], _, _, _ => rfl
  | [], _ :: _, _, h, _ => by simp at h
  | _ :: _, [], _, h, _ => by simp at h
  | x :: L, y :: M, i, h, hd => by
    simp only [List.map_cons, List.cons.injEq] at h
    rw [cat, cat] at hd ⊢
    have hl : (frm x).length = (frm y).length := by rw [frm_len, frm_len, h.1]
    by_cases hi : i < (frm x).length
    · rw [frm_di h.1 (hd.left hl), hd.rightE hl hi]
    · rw [hd.leftE hl (by omega), cat_di L M _ h.2 (hd.right hl (by omega))]
theorem frm_inj {x y : List UInt8} (hl : x.length = y.length) (h : frm x = frm y) : x = y := by
  unfold frm at h
  have h1 := List.append_inj_left h (by simp [four_len, hl])
  have h2 := List.append_inj_right h1 (by simp [four_len])
  exact h2
theorem cat_inj {L M : List (List UInt8)} (hL : ∀ x ∈ L, x.length ≤ 65535) (hM : ∀ x ∈ M, x.length ≤ 65535) (h : cat L = cat M) : L = M := by
  have h1 := alF_cat L hL (L.length + M.length) (by omega)
  have h2 := alF_cat M hM (L.length + M.length) (by omega)
  rw [h, h2] at h1
  have := congrArg (List.map (·.1)) h1
  simpa [pr, List.map_map, Function.comp_def] using this.symm
theorem u8s_inj {n m : Nat} (hn : n < 18446744073709551616) (hm : m < 18446744073709551616) (h : u8s n = u8s m) : n = m := by
  have := congrArg bv h
  rw [u8s_val n hn, u8s_val m hm] at this
  exact this
/-- Rows of the same beginnings and the same end have the same lengths. -/
theorem lens_of {L M : List (List UInt8)} (hn : L.length = M.length) (he : ∀ j, j ≤ L.length → en L j = en M j) : L.map List.length = M.map List.length := by
  apply List.ext_getElem (by simp [hn])
  intro i h1 h2
  simp only [List.length_map] at h1 h2
  simp only [List.getElem_map]
  have a1 := en_snoc L i h1
  have a2 := en_snoc M i h2
  have b1 := he i (by omega)
  have b2 := he (i + 1) (by omega)
  omega
theorem turned_none {l m : List Et} (hl : twE l = 0) (hm : twE m = 0) {i : Nat} (h : Di i (twB l) (twB m)) : twB l = twB m := by
  have el : twB l = cat (tabL l) := by unfold twB; rw [if_pos hl]
  have em : twB m = cat (tabL m) := by unfold twB; rw [if_pos hm]
  rw [el, em] at h ⊢
  obtain ⟨ol, xl⟩ := twE_zero hl
  obtain ⟨om, xm⟩ := twE_zero hm
  refine cat_di _ _ i ?_ h
  have spl : ∀ l : List Et, cat (tabL l) = (cat (tRows l) ++ frm (wrB (tIdx l)) ++ frm (rmB l)) ++ frm (tFoot l) := by
    intro l; unfold tabL; rw [cat_append]; simp [cat, List.append_assoc]
  have hlen := h.1
  rw [spl, spl] at h
  have hpre : (cat (tRows l) ++ frm (wrB (tIdx l)) ++ frm (rmB l)).length = (cat (tRows m) ++ frm (wrB (tIdx m)) ++ frm (rmB m)).length := by
    rw [spl, spl] at hlen
    simp only [List.length_append, frm_len, tFoot_len] at hlen ⊢
    omega
  have done : tabL l = tRows l ++ [wrB (tIdx l), rmB l, tFoot l] := rfl
  have donem : tabL m = tRows m ++ [wrB (tIdx m), rmB m, tFoot m] := rfl
  by_cases hi : i < (cat (tRows l) ++ frm (wrB (tIdx l)) ++ frm (rmB l)).length
  · -- the foot stands
    have hft := frm_inj (by rw [tFoot_len, tFoot_len]) (h.rightE hpre hi)
    unfold tFoot at hft
    have f1 := u8s_inj (by have := ol.n; omega) (by have := om.n; omega) (List.append_inj_left hft (by rw [u8s_len, u8s_len]))
    have f2 := u8s_inj (by have := tCat_len ol; omega) (by have := tCat_len om; omega) (List.append_inj_right hft (by rw [u8s_len, u8s_len]))
    have hrm : (rmB l).length = (rmB m).length := by rw [rmB_len, rmB_len, f1]
    have hix : (wrB (tIdx l)).length = (wrB (tIdx m)).length := by
      simp only [List.length_append, frm_len] at hpre; omega
    have hrl : (tRows l).length = (tRows m).length := by rw [tRows_len, tRows_len, f1]
    have hd := h.left hpre
    have hlens : (tRows l).map List.length = (tRows m).map List.length := by
      rw [List.append_assoc, List.append_assoc] at hd
      by_cases hi2 : i < (cat (tRows l)).length
      · have h2 := hd.rightE f2 hi2
        have h3 := frm_inj hix (List.append_inj_left h2 (by rw [frm_len, frm_len, hix]))
        have h4 : tIdx l = tIdx m := by
          rw [wrB_of (tIdx_ok ol), wrB_of (tIdx_ok om)] at h3
          have := rdB_wb (tIdx_ok ol)
          rw [h3, rdB_wb (tIdx_ok om)] at this
          exact (Option.some.inj this).symm
        refine lens_of hrl fun j hj => ?_
        rcases Nat.lt_or_ge j (tRows l).length with hlt | hge
        · have g1 : j < (tIdx l).length := by rw [tIdx_len, ← tRows_len]; exact hlt
          have g2 : j < (tIdx m).length := by rw [← h4]; exact g1
          have e1 : (tIdx l)[j]'g1 = (tIdx m)[j]'g2 := by simp only [h4]
          rw [tIdx_at, tIdx_at] at e1
          have e2 := congrArg Prod.snd e1
          exact u8s_inj (by have := en_le (tRows l) j; have := tCat_len ol; omega) (by have := en_le (tRows m) j; have := tCat_len om; omega) e2
        · have e : j = (tRows l).length := by omega
          unfold en
          rw [List.take_of_length_le (by omega), List.take_of_length_le (by omega)]
          exact f2
      · have h2 := hd.leftE f2 (by omega)
        have := cat_inj (fun x hx => by have := tRows_bd ol x hx; omega) (fun x hx => by have := tRows_bd om x hx; omega) h2
        rw [this]
    rw [done, donem, List.map_append, List.map_append, hlens]
    simp only [List.map_cons, List.map_nil, hix, hrm, tFoot_len]
  · -- only the foot may be turned
    have h2 := h.leftE hpre (by omega)
    have h3 : cat (tRows l ++ [wrB (tIdx l), rmB l]) = cat (tRows m ++ [wrB (tIdx m), rmB m]) := by
      rw [cat_append, cat_append]; simpa [cat, List.append_assoc] using h2
    have hb := tabL_bd hl
    have hb2 := tabL_bd hm
    have h4 := cat_inj (fun x hx => hb x (by rw [done]; exact mem_pre hx)) (fun x hx => hb2 x (by rw [donem]; exact mem_pre hx)) h3
    have h5 := congrArg (List.map List.length) h4
    have e1 : (tabL l).map List.length = (tRows l ++ [wrB (tIdx l), rmB l]).map List.length ++ [16] := by rw [done]; simp [tFoot_len]
    have e2 : (tabL m).map List.length = (tRows m ++ [wrB (tIdx m), rmB m]).map List.length ++ [16] := by rw [donem]; simp [tFoot_len]
    rw [e1, e2, h5]
theorem at_cut : ∀ (L : List (List UInt8)) (c : Nat), c < (cat L).length → ∃ k, k < L.length ∧ en L k ≤ c ∧ c < en L (k + 1)
  | [], c, h => by simp [cat] at h
  | x :: L, c, h => by
    by_cases h1 : c < x.length + 8
    · exact ⟨0, by simp, by rw [en_zero]; omega, by rw [en_cons, en_zero]; omega⟩
    · rw [cat, List.length_append, frm_len] at h
      obtain ⟨k, g1, g2, g3⟩ := at_cut L (c - (x.length + 8)) (by omega)
      exact ⟨k + 1, by simp; omega, by rw [en_cons]; omega, by rw [en_cons]; omega⟩
theorem sh_ne {n : Nat} (h0 : 0 < n) (r : List UInt8) : (sh n ++ r)[0]? ≠ some 0 := by
  by_cases h : n < 128
  · rw [sh_lo h]
    simp only [List.cons_append, List.getElem?_cons_zero, ne_eq, Option.some.injEq]
    intro e
    have := congrArg UInt8.toNat e
    simp at this
    omega
  · rw [sh_hi h]
    simp only [List.cons_append, List.getElem?_cons_zero, ne_eq, Option.some.injEq]
    intro e
    have := congrArg UInt8.toNat e
    simp at this
    omega
theorem foot_two {l : List Et} (h : l.length ≤ 4096) : (tFoot l)[0]? = some 0 ∧ (tFoot l)[1]? = some 0 := by
  unfold tFoot u8s
  refine ⟨?_, ?_⟩
  · simp only [List.cons_append, List.getElem?_cons_zero, Option.some.injEq]
    rw [show l.length / 72057594037927936 = 0 by omega]; rfl
  · simp only [List.cons_append, List.getElem?_cons_succ, List.getElem?_cons_zero, Option.some.injEq]
    rw [show l.length / 281474976710656 = 0 by omega]; rfl
theorem svd_zero (a k : Ks) : svd 0 a k = 0 := rfl
theorem ix_two {l : List Et} (h : TOk l) (h16 : (wrB (tIdx l)).length = 16) : (wrB (tIdx l))[1]? ≠ some 0 := by
  rw [wrB_of (tIdx_ok h)] at h16 ⊢
  cases hx : tIdx l with
  | nil => rw [hx] at h16; simp [wb, wbF] at h16
  | cons x r =>
    have hm : x ∈ tIdx l := by rw [hx]; exact List.mem_cons_self
    obtain ⟨j, hj, rfl⟩ := List.mem_map.1 hm
    obtain ⟨y, hy, e⟩ := tLast_mem (l := l) (tK_lt.1 (List.mem_range.1 hj))
    have hk := (h.k y hy).1
    rw [e] at hk
    unfold wb
    rw [wbF]
    unfold pb
    rw [svd_zero, sh_lo (n := 0) (by decide)]
    have := sh_ne (n := (tLast l j).length - 0) (by omega) (sh (u8s (en (tRows l) j)).length ++ ((tLast l j).drop 0 ++ u8s (en (tRows l) j)) ++ wbF 1 (tLast l j) r)
    intro e2
    apply this
    simpa [List.append_assoc] using e2
theorem row_long {l : List Et} (h : TOk l) {j : Nat} (hj : 16 * j < l.length) : 41 ≤ (tRow l j).length := by
  unfold tRow
  have h0 := rowP_ok h j
  rw [wrB_of h0]
  have hc : 0 < (tCh l j).length := by rw [tCh_len]; omega
  cases hx : tCh l j with
  | nil => rw [hx] at hc; simp at hc
  | cons x r =>
    have hm : x ∈ l := tCh_mem (j := j) (by rw [hx]; exact List.mem_cons_self)
    have hw := wrU_len (h.a x hm).2
    show 41 ≤ (wbF 0 [] ((x.1, wrU x.2) :: rowP r)).length
    rw [wbF, List.length_append, pb_len]
    show 41 ≤ _ + (wrU x.2).length + _
    omega
/-- A table that is cut is none. -/
theorem cut_none {l m : List Et} (hl : twE l = 0) (hm : twE m = 0) {c : Nat} (hc : c < (twB l).length) (h : twB m = (twB l).take c) : False := by
  have el : twB l = cat (tabL l) := by unfold twB; rw [if_pos hl]
  have em : twB m = cat (tabL m) := by unfold twB; rw [if_pos hm]
  rw [el] at hc h
  rw [em] at h
  obtain ⟨k, g1, g2, g3⟩ := at_cut _ _ hc
  have h1 := al_cut k (tabL l) c (k + (tabL m).length) (by omega) (tabL_bd hl) g2 (.inr g3) (by omega)
  have h2 := alF_cat (tabL m) (tabL_bd hm) (k + (tabL m).length) (by omega)
  rw [← h, h2] at h1
  have h3 := congrArg (List.map (·.1)) h1
  have h4 : tabL m = (tabL l).take k := by simpa [pr, List.map_map, Function.comp_def] using h3
  obtain ⟨ol, _⟩ := twE_zero hl
  obtain ⟨om, _⟩ := twE_zero hm
  have h5 := congrArg List.length h4
  rw [tabL_len, List.length_take] at h5
  rw [tabL_len] at g1
  have h6 : (tabL m)[tK m.length + 2]? = some (tFoot m) := by
    unfold tabL
    rw [List.getElem?_append_right (by rw [tRows_len]; omega), tRows_len, Nat.add_sub_cancel_left]; rfl
  rw [h4, List.getElem?_take, if_pos (by omega)] at h6
  have h7 : tK m.length + 2 < tK l.length + 2 := by rw [tabL_len] at h5; omega
  have f16 := tFoot_len m
  obtain ⟨f0, f1⟩ := foot_two om.n
  unfold tabL at h6
  rcases Nat.lt_or_ge (tK m.length + 2) (tK l.length) with q | q
  · rw [List.getElem?_append_left (by rw [tRows_len]; exact q), List.getElem?_eq_getElem (by rw [tRows_len]; exact q), tRows_at] at h6
    have := row_long ol (tK_lt.1 q)
    rw [Option.some.inj h6, f16] at this
    omega
  · rw [List.getElem?_append_right (by rw [tRows_len]; exact q), tRows_len] at h6
    have q2 : tK m.length + 2 - tK l.length = 0 ∨ tK m.length + 2 - tK l.length = 1 := by omega
    rcases q2 with q2 | q2
    · rw [q2] at h6
      have e : wrB (tIdx l) = tFoot m := by simpa using h6
      exact ix_two ol (by rw [e, f16]) (by rw [e]; exact f1)
    · rw [q2] at h6
      have e : rmB l = tFoot m := by simpa using h6
      rw [← e] at f0
      unfold rmB at f0
      simp at f0
end Go.Proofs.Ytldifjfcgcmfiaa

/- TableOnce's walk. -/
namespace Go.Proofs.Ytldifjfcgcmfiaa
open Go.RowKit

set_option maxRecDepth 100000 in
set_option maxHeartbeats 4000000 in
theorem once10_walk (v : Value) (b : List UInt8) (W : World) (hR : Reads W v b) : Calls Try.prog 4 #[v] W fun e W' => e = .returned (.bool true) ∧ Below W.heap.size W W' := by
  obtain ⟨ba, bc9, rfl, hbm⟩ := hR.form
  unfold maxLen at hbm
  have HR : Hid (Reads W (.slice ba b.length bc9) b) := hR
  have HOp : Hid (b.length ≤ 1000000 → Calls Try.prog 10 #[.slice ba b.length bc9] W (OpP W b)) := fun h => topen_any _ b W hR h
  obtain ⟨BL, HBL⟩ : ∃ n, Hid (b.length = n) := ⟨_, rfl⟩
  rw [HBL.out] at HR HOp hbm ⊢
  clear hR
  go_enter Try.func4, Try.ntmps4
  by_cases hl : 6000 < BL
  · have hl' : (6000 : Int) < (BL : Int) := by omega
    go_wp2_with fail
    refine (alive10_any W).mono ?_
    rintro e w1 ⟨rfl, hb1⟩
    go_wp2_with fail
    go_ret
    exact ⟨rfl, hb1⟩
  · have hl' : ¬ (6000 : Int) < (BL : Int) := by omega
    have HO2 : Hid (Calls Try.prog 10 #[.slice ba BL bc9] W (OpP W b)) := HOp.out (by omega)
    clear HOp
    go_wp2_with fail
    refine HO2.out.mono ?_
    clear HO2
    rintro e w1 ⟨hb1, ⟨hok, B, rfl, hTb⟩ | ⟨_, rfl⟩⟩
    · have HB1 : Hid (Below W.heap.size W w1) := hb1
      have HTw : Hid (twE (opL b) = 0 ∧ twB (opL b) = b) := hok.2
      obtain ⟨l, HL⟩ := hid_ex (opL b)
      rw [← HL.out] at HTw hTb
      have HAl : Hid (Calls Try.prog 12 #[.pointer (some ⟨B, 0, none⟩)] w1 (FiP w1 l)) := tall_any hTb
      clear hb1 hok hTb
      go_wp2_with fail
      refine HAl.out.mono ?_
      clear HAl
      rintro e w2 ⟨v2, xs, rfl, hxs, hto, hb2⟩
      have HB2 : Hid (Below W.heap.size W w2) := HB1.out.trans (hb2.mono HB1.out.size)
      have hWr := twrite_all v2 l w2 (by rw [← hxs]; exact hto.reads)
      rw [HTw.out.1, HTw.out.2] at hWr
      have HWr : Hid (Calls Try.prog 9 #[v2] w2 _) := hWr
      obtain ⟨a2, c2, rfl, _⟩ := hto.form
      clear hWr hto hxs hb2
      go_wp2_with fail
      refine HWr.out.mono ?_
      clear HWr
      rintro e w3 ⟨v3, rfl, ho3, hb3⟩
      have HB3 : Hid (Below W.heap.size W w3) := HB2.out.trans (hb3.mono HB2.out.size)
      have HR3 : Hid (Reads w3 v3 b) := ho3.reads
      obtain ⟨a3, c3, rfl, _⟩ := ho3.form
      rw [HBL.out] at HR3 ⊢
      clear ho3 hb3
      go_wp2_with fail
      refine (alive10_any w3).mono ?_
      rintro e w4 ⟨rfl, hb4⟩
      have HB4 : Hid (Below W.heap.size W w4) := HB3.out.trans (hb4.mono HB3.out.size)
      have hq1 := reads_text (HR3.out.below hb4)
      have hq2 := reads_text (HR.out.below HB4.out)
      clear hb4
      go_wp2_with fail
      go_ret
      exact ⟨rfl, HB4.out⟩
    · have HB1 : Hid (Below W.heap.size W w1) := hb1
      clear hb1
      go_wp2_with fail
      refine (alive10_any w1).mono ?_
      rintro e w2 ⟨rfl, hb2⟩
      have HB2 : Hid (Below W.heap.size W w2) := HB1.out.trans (hb2.mono HB1.out.size)
      clear hb2
      go_wp2_with fail
      go_ret
      exact ⟨rfl, HB2.out⟩
end Go.Proofs.Ytldifjfcgcmfiaa
