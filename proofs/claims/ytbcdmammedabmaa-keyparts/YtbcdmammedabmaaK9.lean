/- Keys' bytes stand as the keys do: no program in sight. -/
import Derived.Test.YtbcdmammedabmaaK5
namespace Go.Proofs.Ytbcdmammedabmaa

theorem less_irr (l : List UInt8) : Op.bytesLess l l = false := by
  induction l with
  | nil => rfl
  | cons x l ih => rw [less_same]; exact ih
theorem less_asym (l : List UInt8) : ∀ m, Op.bytesLess l m = true → Op.bytesLess m l = false := by
  induction l with
  | nil => intro m _; cases m <;> rfl
  | cons x l ih =>
    intro m h
    cases m with
    | nil => simp [Op.bytesLess] at h
    | cons y m =>
      rcases Nat.lt_trichotomy x.toNat y.toNat with h1 | h1 | h1
      · exact less_gt _ _ h1
      · obtain rfl := u8_eq h1
        rw [less_same] at h ⊢; exact ih m h
      · rw [less_gt _ _ h1] at h; simp at h
theorem less_tot (l : List UInt8) : ∀ m, l ≠ m → Op.bytesLess l m = false → Op.bytesLess m l = true := by
  induction l with
  | nil => intro m h1 h2; cases m with
    | nil => exact absurd rfl h1
    | cons y m => simp [Op.bytesLess] at h2
  | cons x l ih =>
    intro m h1 h2
    cases m with
    | nil => rfl
    | cons y m =>
      rcases Nat.lt_trichotomy x.toNat y.toNat with h3 | h3 | h3
      · rw [less_lt _ _ h3] at h2; simp at h2
      · obtain rfl := u8_eq h3
        rw [less_same] at h2 ⊢; exact ih m (fun e => h1 (by rw [e])) h2
      · exact less_lt _ _ h3
theorem ba_eq {s t : ByteArray} : s.data.toList = t.data.toList ↔ s = t := by
  constructor
  · intro h
    cases s; cases t
    simp at h
    rw [h]
  · intro h; rw [h]
theorem cmpS_zero {s t : ByteArray} : cmpS s t = 0 ↔ s = t := by
  unfold cmpS
  rw [ByteArray.toList_eq, ByteArray.toList_eq]
  constructor
  · intro h
    by_cases h1 : Op.bytesLess s.data.toList t.data.toList = true
    · rw [if_pos h1] at h; simp at h
    · rw [if_neg h1] at h
      by_cases h2 : s.data.toList = t.data.toList
      · exact ba_eq.1 h2
      · rw [if_neg h2] at h; simp at h
  · rintro rfl
    rw [if_neg (by rw [less_irr]; decide), if_pos rfl]
theorem cmpS_neg {s t : ByteArray} : cmpS s t < 0 ↔ Op.bytesLess s.data.toList t.data.toList = true := by
  unfold cmpS
  rw [ByteArray.toList_eq, ByteArray.toList_eq]
  by_cases h1 : Op.bytesLess s.data.toList t.data.toList = true
  · rw [if_pos h1]; simp [h1]
  · rw [if_neg h1]; split <;> simp [h1]
theorem cmpL_zero (L : List ByteArray) : ∀ M, cmpL L M = 0 ↔ L = M := by
  induction L with
  | nil => intro M; cases M <;> simp [cmpL]
  | cons x L ih =>
    intro M
    cases M with
    | nil => simp [cmpL]
    | cons y M =>
      rw [cmpL]
      by_cases h : cmpS x y = 0
      · rw [if_neg (by simpa using h), ih]
        have := cmpS_zero.1 h
        subst this; simp
      · rw [if_pos h]
        constructor
        · intro h'; exact absurd h' h
        · intro h'; simp at h'; exact absurd (cmpS_zero.2 h'.1) h
theorem jb_less (L : List ByteArray) : ∀ M A B, Op.bytesLess (jb L ++ 0 :: A) (jb M ++ 0 :: B) = if cmpL L M = 0 then Op.bytesLess A B else decide (cmpL L M < 0) := by
  induction L with
  | nil =>
    intro M A B
    cases M with
    | nil => show Op.bytesLess (0 :: A) (0 :: B) = _; rw [less_same]; rfl
    | cons y M => rw [jb_cons]; show Op.bytesLess (0 :: A) (1 :: _) = _; rw [less_lt _ _ (by decide)]; rfl
  | cons x L ih =>
    intro M A B
    cases M with
    | nil => rw [jb_cons]; show Op.bytesLess (1 :: _) (0 :: B) = _; rw [less_gt _ _ (by decide)]; rfl
    | cons y M =>
      rw [jb_cons, jb_cons, List.cons_append, List.cons_append, less_same]
      unfold tx
      simp only [List.append_assoc, List.cons_append, List.nil_append]
      rw [tx_less, ih, cmpL]
      by_cases h : x = y
      · subst h
        rw [if_pos rfl, cmpS_zero.2 rfl]; simp
      · have h0 : ¬ cmpS x y = 0 := fun e => h (cmpS_zero.1 e)
        rw [if_neg (fun e => h (ba_eq.1 e)), if_pos h0, if_neg h0]
        rw [Bool.eq_iff_iff, decide_eq_true_iff, cmpS_neg]
theorem jb_inj (L : List ByteArray) : ∀ M A B, jb L ++ 0 :: A = jb M ++ 0 :: B → L = M ∧ A = B := by
  induction L with
  | nil =>
    intro M A B h
    cases M with
    | nil => have h' : (0 : UInt8) :: A = 0 :: B := h; simp at h'; exact ⟨rfl, h'⟩
    | cons y M => rw [jb_cons] at h; have h' : (0 : UInt8) :: A = 1 :: _ := h; simp at h'
  | cons x L ih =>
    intro M A B h
    cases M with
    | nil => rw [jb_cons] at h; have h' : (1 : UInt8) :: _ = 0 :: B := h; simp at h'
    | cons y M =>
      rw [jb_cons, jb_cons, List.cons_append, List.cons_append] at h
      simp only [List.cons.injEq, true_and] at h
      unfold tx at h
      simp only [List.append_assoc, List.cons_append, List.nil_append] at h
      obtain ⟨h1, h2⟩ := tx_inj _ _ _ _ h
      obtain ⟨h3, h4⟩ := ih _ _ _ h2
      exact ⟨by rw [ba_eq.1 h1, h3], h4⟩
theorem bv_snoc (l : List UInt8) (x : UInt8) : bv (l ++ [x]) = bv l * 256 + x.toNat := by
  induction l with
  | nil => simp [bv]
  | cons y l ih =>
    simp only [List.cons_append, bv, ih, List.length_append, List.length_cons, List.length_nil, Nat.pow_succ, Nat.add_mul]
    rw [← Nat.mul_assoc, Nat.add_assoc]
theorem tail_less (f g f' g' : Int) (h : 0 ≤ f ∧ f ≤ 1099511627776 ∧ 0 ≤ g ∧ g ≤ 3) (h' : 0 ≤ f' ∧ f' ≤ 1099511627776 ∧ 0 ≤ g' ∧ g' ≤ 3) :
    Op.bytesLess (nb f ++ [UInt8.ofNat g.toNat]) (nb f' ++ [UInt8.ofNat g'.toNat]) = decide (f < f' ∨ f = f' ∧ g < g') := by
  rw [less_bv _ _ (by simp [nb_len]), bv_snoc, bv_snoc]
  have e1 := bv_nb f (by omega) (by omega)
  have e2 := bv_nb f' (by omega) (by omega)
  have e3 : (UInt8.ofNat g.toNat).toNat = g.toNat := by rw [UInt8.toNat_ofNat']; omega
  have e4 : (UInt8.ofNat g'.toNat).toNat = g'.toNat := by rw [UInt8.toNat_ofNat']; omega
  rw [e3, e4]
  apply decide_eq_decide.2
  omega
theorem right_facts {L : List ByteArray} {f g : Int} (h : rightB L f g = true) : mayB L = true ∧ 0 ≤ f ∧ f ≤ 1099511627776 ∧ 0 ≤ g ∧ g ≤ 3 := by
  unfold rightB at h
  obtain ⟨h1, h2⟩ := Bool.and_eq_true_iff.1 h
  exact ⟨h1, of_decide_eq_true h2⟩
theorem kb_form (L : List ByteArray) (f g : Int) : kb L f g = jb L ++ 0 :: (nb f ++ [UInt8.ofNat g.toNat]) := by
  unfold kb jn; simp
theorem or3_neg (c f g f' g' : Int) : (or3 c (cmpI f f') (cmpI g g') < 0) ↔ (c < 0 ∨ c = 0 ∧ (f < f' ∨ f = f' ∧ g < g')) := by
  unfold or3 cmpI
  repeat' split
  all_goals omega
/-- IN ORDER. -/
theorem kb_less (a b : Ky) (ha : rightB a.L a.f a.g = true) (hb : rightB b.L b.f b.g = true) : Op.bytesLess (kb a.L a.f a.g) (kb b.L b.f b.g) = lessK a b := by
  rw [kb_form, kb_form, jb_less, tail_less _ _ _ _ (right_facts ha).2 (right_facts hb).2]
  unfold lessK
  by_cases h : cmpL a.L b.L = 0
  · rw [if_pos h]
    apply decide_eq_decide.2
    rw [or3_neg]; omega
  · rw [if_neg h]
    apply decide_eq_decide.2
    rw [or3_neg]; omega
theorem kb_len (L : List ByteArray) (f g : Int) : (kb L f g).length = (jn L).length + 9 := by unfold kb; simp [nb_len]
/-- No one's are another one's front. -/
theorem kb_front (a b : Ky) (h : (kb b.L b.f b.g).take (kb a.L a.f a.g).length = kb a.L a.f a.g) : (kb b.L b.f b.g).length ≤ (kb a.L a.f a.g).length := by
  have h2 : kb a.L a.f a.g ++ (kb b.L b.f b.g).drop (kb a.L a.f a.g).length = kb b.L b.f b.g := by
    conv => lhs; lhs; rw [← h]
    rw [List.take_append_drop]
  generalize hC : (kb b.L b.f b.g).drop (kb a.L a.f a.g).length = C at h2
  rw [kb_form, kb_form, List.append_assoc, List.cons_append] at h2
  obtain ⟨h3, h4⟩ := jb_inj _ _ _ _ h2
  have := congrArg List.length h4
  simp [nb_len] at this
  have h5 := congrArg List.length hC
  rw [List.length_drop] at h5
  omega
end Go.Proofs.Ytbcdmammedabmaa
