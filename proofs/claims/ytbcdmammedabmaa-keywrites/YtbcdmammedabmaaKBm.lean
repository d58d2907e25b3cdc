/- Keys go there and back, in one way alone: no program in sight. -/
import Derived.Test.YtbcdmammedabmaaK11
import Derived.Test.YtbcdmammedabmaaCM
namespace Go.Proofs.Ytbcdmammedabmaa
open Go.RowKit Go.Joins

theorem pdF_jb (L : List ByteArray) : ∀ (n : Nat) (T : List UInt8) (A : List ByteArray), L.length < n → pdF n (jb L ++ 0 :: T) A = some (A ++ L, T) := by
  induction L with
  | nil =>
    intro n T A h
    cases n with
    | zero => simp at h
    | succ n => show pdF (n + 1) (0 :: T) A = _; rw [pdF, if_pos (by decide)]; simp
  | cons s L ih =>
    intro n T A h
    cases n with
    | zero => simp at h
    | succ n =>
      have e : rtF (tx s.data.toList ++ (jb L ++ 0 :: T)) [] 0 = (s.data.toList, (tx s.data.toList).length, 0) := by
        unfold tx
        simp only [List.append_assoc, List.cons_append, List.nil_append]
        rw [rtF_tx]
        simp [tx]
      rw [jb_cons, List.cons_append, List.append_assoc, pdF, if_neg (by decide), if_pos (by decide), e]
      simp only [if_true, List.drop_left]
      rw [ih n T _ (by simpa using h)]
      have e2 : (⟨s.data.toList.toArray⟩ : ByteArray) = s := by cases s; simp
      rw [e2]; simp
theorem pdF_taken (n : Nat) : ∀ (l : List UInt8) (A D : List ByteArray) (r : List UInt8), pdF n l A = some (D, r) → ∃ D', D = A ++ D' ∧ l = jb D' ++ 0 :: r := by
  induction n with
  | zero => intro l A D r h; simp [pdF] at h
  | succ n ih =>
    intro l A D r h
    cases l with
    | nil => simp [pdF] at h
    | cons x t =>
      rw [pdF] at h
      by_cases h0 : x.toNat = 0
      · rw [if_pos h0] at h
        simp at h
        obtain ⟨rfl, rfl⟩ := h
        have ex : x = 0 := u8_eq h0
        exact ⟨[], by simp, by rw [ex]; rfl⟩
      · rw [if_neg h0] at h
        by_cases h1 : x.toNat = 1
        · rw [if_pos h1] at h
          by_cases hE : (rtF t [] 0).2.2 = 0
          · rw [if_pos hE] at h
            obtain ⟨D', h2, h3⟩ := ih _ _ _ _ h
            have hf := rt_facts (l := t) (S := (rtF t [] 0).1) (N := (rtF t [] 0).2.1) (by rw [← hE])
            have ex : x = 1 := u8_eq h1
            refine ⟨⟨(rtF t [] 0).1.toArray⟩ :: D', by rw [h2]; simp, ?_⟩
            rw [jb_cons, ex, List.cons_append, List.append_assoc, ← h3]
            show 1 :: t = 1 :: (tx (rtF t [] 0).1.toArray.toList ++ _)
            rw [List.toList_toArray, hf.2.2.2, List.take_append_drop]
          · rw [if_neg hE] at h; simp at h
        · rw [if_neg h1] at h; simp at h
theorem rdF_kb (L : List ByteArray) (f g : Int) (h : rightB L f g = true) : rdF (kb L f g) = some (L, f, g) := by
  obtain ⟨hm, h1, h2, h3, h4⟩ := right_facts h
  have hl := (mayB_iff.1 hm).1
  have hp : pdF 5 (kb L f g) [] = some (L, nb f ++ [UInt8.ofNat g.toNat]) := by
    rw [kb_form, pdF_jb L 5 _ [] (by omega)]; simp
  rw [rdF_some hp, if_pos (by simp [nb_len]), rnF_nb f (by omega) (by omega)]
  have e8 : ((nb f ++ [UInt8.ofNat g.toNat]).getD 8 0) = UInt8.ofNat g.toNat := by
    rw [List.getD_eq_getElem?_getD, List.getElem?_append_right (by rw [nb_len]; omega), nb_len]; rfl
  have e9 : ((UInt8.ofNat g.toNat).toNat : Int) = g := by rw [UInt8.toNat_ofNat']; omega
  rw [e8, e9]
  simp only
  rw [if_pos h]
theorem rdF_taken {l : List UInt8} {D : List ByteArray} {f g : Int} (h : rdF l = some (D, f, g)) : rightB D f g = true ∧ kb D f g = l := by
  cases hp : pdF 5 l [] with
  | none => rw [rdF_none hp] at h; simp at h
  | some q =>
    obtain ⟨D', r⟩ := q
    rw [rdF_some hp] at h
    by_cases h9 : r.length = 9
    · rw [if_pos h9] at h
      by_cases hr : rightB D' (rnF r).1 ((r.getD 8 0).toNat : Int) = true
      · rw [if_pos hr] at h
        simp only [Option.some.injEq, Prod.mk.injEq] at h
        obtain ⟨rfl, rfl, rfl⟩ := h
        refine ⟨hr, ?_⟩
        obtain ⟨D2, h2, h3⟩ := pdF_taken _ _ _ _ _ hp
        have e2 : D' = D2 := by simpa using h2
        subst e2
        rw [kb_form, h3]
        congr 2
        have hb := rnF9 h9
        have e4 : nb (rnF r).1 = r.take 8 := by
          refine bv_eq _ _ (by rw [nb_len]; simp; omega) ?_
          have e5 := bv_nb (rnF r).1 hb.2.2.1 hb.2.2.2
          have e6 : (rnF r).1 = (bv (r.take 8) : Int) - 9223372036854775808 := by
            unfold rnF
            rw [if_neg (by omega)]
            simp only
            have hbv := foldl_bv (r.take 8) 0
            unfold beval
            rw [hbv]; simp
          omega
        have e8 : UInt8.ofNat (((r.getD 8 0).toNat : Int)).toNat = r[8]'(by omega) := by
          have : r.getD 8 0 = r[8]'(by omega) := by simp [List.getD, h9]
          rw [this, Int.toNat_natCast]
          exact UInt8.ofNat_toNat ..
        rw [e4, e8]
        have := List.take_succ_eq_append_getElem (l := r) (i := 8) (by omega)
        rw [← this]
        exact List.take_of_length_le (by omega)
      · rw [if_neg hr] at h; simp at h
    · rw [if_neg h9] at h; simp at h
end Go.Proofs.Ytbcdmammedabmaa
