/- Digits of a number, and the number of digits: there and back. -/
import Derived.Test.YtldbglkapopbiaaW8
namespace Go.Proofs.Ytldbglkapopbiaa
open Go.RowKit

theorem decs_snoc (n L : Nat) : decs n (L + 1) = decs (n / 10) L ++ [UInt8.ofNat (48 + n % 10)] := by
  unfold decs
  rw [List.range_succ, List.map_append]
  congr 1
  · apply List.map_congr_left
    intro i hi
    have hi : i < L := by simpa using hi
    have e : L + 1 - 1 - i = (L - 1 - i) + 1 := by omega
    rw [e, Nat.pow_succ, Nat.mul_comm, ← Nat.div_div_eq_div_mul]
  · simp
theorem dig_toNat (d : Nat) (h : d < 10) : (UInt8.ofNat (48 + d)).toNat = 48 + d := by
  simp [UInt8.toNat_ofNat']; omega
theorem numOf_decs (L : Nat) : ∀ n, n < 10 ^ L → numOf (decs n L) = n := by
  induction L with
  | zero => intro n h; simp at h; subst h; rfl
  | succ L ih =>
    intro n h
    rw [decs_snoc, numOf_snoc, ih (n / 10) (by rw [Nat.pow_succ] at h; omega), dig_toNat _ (by omega)]
    omega
theorem decs_digits (L : Nat) : ∀ n, AllDigits (decs n L) := by
  induction L with
  | zero => intro n c hc; simp [decs] at hc
  | succ L ih =>
    intro n c hc
    rw [decs_snoc] at hc
    rcases List.mem_append.1 hc with h | h
    · exact ih _ c h
    · obtain rfl := List.mem_singleton.1 h
      rw [dig_toNat _ (by omega)]; omega
theorem decs_head (n L : Nat) : (decs n (L + 1)).head? = some (UInt8.ofNat (48 + n / 10 ^ L % 10)) := by
  unfold decs
  rw [List.range_succ_eq_map]
  simp
theorem pow_pos' (L : Nat) : 0 < 10 ^ L := Nat.pos_of_ne_zero (by simp)
theorem isLen_lt {n L : Nat} (h : IsLen n L) : n < 10 ^ L := by
  have := (Nat.div_eq_zero_iff).1 h.2.1
  rcases this with h1 | h1
  · have := pow_pos' L; omega
  · exact h1
theorem isLen_ge {n L : Nat} (h : IsLen n L) (h1 : 1 < L) : 10 ^ (L - 1) ≤ n := by
  rcases h.2.2 with h2 | h2
  · omega
  · rcases Nat.lt_or_ge n (10 ^ (L - 1)) with h3 | h3
    · exact absurd (Nat.div_eq_of_lt h3) h2
    · exact h3
theorem isLen_uni {n L M : Nat} (h : IsLen n L) (g : IsLen n M) : L = M := by
  have a1 := isLen_lt h
  have a2 := isLen_lt g
  have b1 := h.1
  have b2 := g.1
  rcases Nat.lt_trichotomy L M with hlt | he | hlt
  · have := isLen_ge g (by omega)
    have h3 : 10 ^ L ≤ 10 ^ (M - 1) := Nat.pow_le_pow_right (by omega) (by omega)
    omega
  · exact he
  · have := isLen_ge h (by omega)
    have h3 : 10 ^ M ≤ 10 ^ (L - 1) := Nat.pow_le_pow_right (by omega) (by omega)
    omega
/-- How many digits a number has. -/
def dl (n : Nat) : Nat := if h : n < 10 then 1 else dl (n / 10) + 1
termination_by n
decreasing_by omega
theorem dl_is (n : Nat) : IsLen n (dl n) := by
  induction n using Nat.strongRecOn with
  | _ n ih =>
    unfold dl
    by_cases h : n < 10
    · rw [dif_pos h]
      exact ⟨by omega, by rw [Nat.pow_one]; omega, .inl rfl⟩
    · rw [dif_neg h]
      obtain ⟨h1, h2, h3⟩ := ih (n / 10) (by omega)
      refine ⟨by omega, ?_, .inr ?_⟩
      · rw [Nat.pow_succ, Nat.mul_comm, ← Nat.div_div_eq_div_mul]; exact h2
      · rw [Nat.add_sub_cancel]
        have e : dl (n / 10) = (dl (n / 10) - 1) + 1 := by omega
        rw [e, Nat.pow_succ, Nat.mul_comm, ← Nat.div_div_eq_div_mul]
        rcases h3 with h3 | h3
        · rw [h3]; simp; omega
        · exact h3
theorem formed_decs {n L : Nat} (h : IsLen n L) (neg : Bool) (hn : neg = true → 1 ≤ n) : Formed (decs n L) neg := by
  refine ⟨⟨by rw [decs_len]; exact h.1, fun hh => ?_⟩, decs_digits L n⟩
  obtain ⟨M, rfl⟩ : ∃ M, L = M + 1 := ⟨L - 1, by have := h.1; omega⟩
  rw [decs_head, decs_len] at hh
  obtain ⟨h1, h2⟩ := hh
  have hlt : n / 10 ^ M < 10 := by
    have := isLen_lt h
    rw [Nat.pow_succ] at this
    exact Nat.div_lt_of_lt_mul this
  have h3 : 48 + n / 10 ^ M % 10 = 48 := by
    have h4 : UInt8.ofNat (48 + n / 10 ^ M % 10) = 48 := by simpa using h1
    have h5 := dig_toNat (n / 10 ^ M % 10) (by omega)
    rw [h4] at h5
    simpa using h5.symm
  have h6 : n / 10 ^ M = 0 := by generalize n / 10 ^ M = q at *; omega
  rcases h.2.2 with h7 | h7
  · have hM : M = 0 := by omega
    subst hM
    simp at h6
    rcases h2 with h2 | h2
    · have := hn h2; omega
    · omega
  · rw [Nat.add_sub_cancel] at h7; exact h7 h6
theorem snoc_ind {P : List UInt8 → Prop} (h0 : P []) (h1 : ∀ m c, P m → P (m ++ [c])) : ∀ (k : Nat) (l : List UInt8), l.length = k → P l := by
  intro k
  induction k with
  | zero => intro l hl; rw [List.length_eq_zero_iff.1 hl]; exact h0
  | succ k ih =>
    intro l hl
    have hne : l ≠ [] := fun e => by subst e; simp at hl
    rw [← List.dropLast_concat_getLast hne]
    exact h1 _ _ (ih _ (by simp; omega))
theorem decs_numOf (l : List UInt8) (h : AllDigits l) : decs (numOf l) l.length = l ∧ numOf l < 10 ^ l.length := by
  revert h
  refine snoc_ind (P := fun l => AllDigits l → decs (numOf l) l.length = l ∧ numOf l < 10 ^ l.length) ?_ ?_ l.length l rfl
  · intro _; exact ⟨rfl, by simp [numOf]⟩
  · intro m c ih hd
    obtain ⟨i1, i2⟩ := ih (fun x hx => hd x (List.mem_append_left _ hx))
    have hc := hd c (by simp)
    rw [numOf_snoc, List.length_append, List.length_singleton]
    refine ⟨?_, by rw [Nat.pow_succ]; omega⟩
    rw [decs_snoc, show (numOf m * 10 + (c.toNat - 48)) / 10 = numOf m by omega, i1, show (numOf m * 10 + (c.toNat - 48)) % 10 = c.toNat - 48 by omega, show 48 + (c.toNat - 48) = c.toNat by omega]
    simp
theorem isLen_formed {l : List UInt8} {neg : Bool} (h : Formed l neg) : IsLen (numOf l) l.length ∧ (neg = true → 1 ≤ numOf l) := by
  obtain ⟨⟨h1, h2⟩, h3⟩ := h
  obtain ⟨d1, d2⟩ := decs_numOf l h3
  obtain ⟨M, hM⟩ : ∃ M, l.length = M + 1 := ⟨l.length - 1, by omega⟩
  have hh : l.head? = some (UInt8.ofNat (48 + numOf l / 10 ^ M % 10)) := by
    have := decs_head (numOf l) M
    rw [← hM, d1] at this; exact this
  have hz : numOf l / 10 ^ M = 0 → l.head? = some 48 := by
    intro e
    rw [hh, e]; rfl
  refine ⟨⟨by omega, Nat.div_eq_of_lt d2, ?_⟩, fun hn => ?_⟩
  · by_cases hM0 : M = 0
    · left; omega
    · right
      rw [hM, Nat.add_sub_cancel]
      intro e
      exact h2 ⟨hz e, .inr (by omega)⟩
  · rcases Nat.eq_zero_or_pos (numOf l) with e | e
    · exact absurd ⟨hz (by rw [e]; simp), .inl hn⟩ h2
    · exact e
/-- A number's text. -/
def pr (x : Int) : List UInt8 := if x < 0 then 45 :: decs (-x).toNat (dl (-x).toNat) else decs x.toNat (dl x.toNat)
/-- What a text tells: the number, or what is wrong. -/
def psT (l : List UInt8) : Prop := Formed (cutL l).1 (cutL l).2 ∧ (((cutL l).2 = false ∧ (numOf (cutL l).1 : Int) < 170141183460469231731687303715884105728) ∨ ((cutL l).2 = true ∧ (numOf (cutL l).1 : Int) ≤ 170141183460469231731687303715884105728))
def psN (l : List UInt8) : Int := if (cutL l).2 = true then -(numOf (cutL l).1 : Int) else (numOf (cutL l).1 : Int)
theorem cut_pr (x : Int) : cutL (pr x) = (decs x.natAbs (dl x.natAbs), decide (x < 0)) := by
  unfold pr
  by_cases h : x < 0
  · rw [if_pos h, show (-x).toNat = x.natAbs by omega]
    simp [cutL, h]
  · rw [if_neg h, show x.toNat = x.natAbs by omega]
    unfold cutL
    have hd := decs_digits (dl x.natAbs) x.natAbs
    rw [if_neg]
    · simp [h]
    · intro e
      have hm : (45 : UInt8) ∈ decs x.natAbs (dl x.natAbs) := List.mem_of_mem_head? (by rw [e]; rfl)
      have := (hd 45 hm).1
      simp at this
theorem ps_pr (x : Int) (x1 : -170141183460469231731687303715884105728 ≤ x) (x2 : x < 170141183460469231731687303715884105728) : psT (pr x) ∧ psN (pr x) = x := by
  unfold psT psN
  rw [cut_pr]
  have hn := numOf_decs (dl x.natAbs) x.natAbs (isLen_lt (dl_is _))
  simp only [hn]
  refine ⟨⟨formed_decs (dl_is _) _ (fun h => by simp at h; omega), ?_⟩, ?_⟩
  · by_cases h : x < 0
    · exact .inr ⟨by simp [h], by omega⟩
    · exact .inl ⟨by simp [h], by omega⟩
  · by_cases h : x < 0
    · rw [if_pos (by simp [h])]; omega
    · rw [if_neg (by simp [h])]; omega
theorem pr_ps (l : List UInt8) (h : psT l) : pr (psN l) = l ∧ -170141183460469231731687303715884105728 ≤ psN l ∧ psN l < 170141183460469231731687303715884105728 := by
  obtain ⟨hf, h2⟩ := h
  obtain ⟨hl, hn⟩ := isLen_formed hf
  obtain ⟨d1, _⟩ := decs_numOf _ hf.2
  have hu := isLen_uni (dl_is (numOf (cutL l).1)) hl
  rcases h2 with ⟨hb, h3⟩ | ⟨hb, h3⟩
  · have hx : psN l = (numOf (cutL l).1 : Int) := by unfold psN; rw [if_neg (by simp [hb])]
    refine ⟨?_, by omega, by omega⟩
    unfold pr
    rw [hx, if_neg (by omega), Int.toNat_natCast, hu, d1]
    unfold cutL at hb ⊢
    split at hb
    · simp at hb
    · rename_i h; rw [if_neg h]
  · have hx : psN l = -(numOf (cutL l).1 : Int) := by unfold psN; rw [if_pos hb]
    have h1 := hn hb
    refine ⟨?_, by omega, by omega⟩
    unfold pr
    rw [hx, if_pos (by omega), Int.neg_neg, Int.toNat_natCast, hu, d1]
    unfold cutL at hb ⊢
    split at hb
    · rename_i h
      rw [if_pos h]
      cases l with
      | nil => simp at h
      | cons a t => simp at h; rw [h]; rfl
    · simp at hb
theorem psN_bd (l : List UInt8) (h : psT l) : -170141183460469231731687303715884105728 ≤ psN l ∧ psN l < 170141183460469231731687303715884105728 := (pr_ps l h).2
/-- What Parse answers. -/
theorem parse_ok (s : ByteArray) (hs : s.size ≤ maxLen) (h : psT s.data.toList) (w : World) :
    Calls Try.prog 16 #[.string s] w fun e w' => e = .returned (.tuple #[.agg #[.int .i64 (hi (psN s.data.toList)), .int .u64 (lo (psN s.data.toList))], .int .i64 0]) ∧ Below w.heap.size w w' := by
  obtain ⟨hf, h2⟩ := h
  obtain ⟨_, hn⟩ := isLen_formed hf
  rcases h2 with ⟨hb, h3⟩ | ⟨hb, h3⟩
  · have hx : psN s.data.toList = (numOf (cutL s.data.toList).1 : Int) := by unfold psN; rw [if_neg (by simp [hb])]
    rw [hx]
    exact parse_pos s hs hf _ rfl (by omega) h3 hb w
  · have hx : psN s.data.toList = -(numOf (cutL s.data.toList).1 : Int) := by unfold psN; rw [if_pos hb]
    rw [hx]
    exact parse_neg s hs hf _ rfl (by omega) ⟨hn hb, h3⟩ hb w
def psF (l : List UInt8) : Prop := Formed (cutL l).1 (cutL l).2
theorem parse_wide (s : ByteArray) (hs : s.size ≤ maxLen) (hf : psF s.data.toList) (h : ¬ psT s.data.toList) (w : World) :
    Calls Try.prog 16 #[.string s] w fun e w' => e = .returned (.tuple #[.agg #[.int .i64 0, .int .u64 0], .int .i64 11]) ∧ Below w.heap.size w w' := by
  have hno := fun k => h ⟨hf, k⟩
  by_cases hbig : 340282366920938463463374607431768211456 ≤ numOf (cutL s.data.toList).1
  · exact parse_big s hs hf hbig w
  · cases hb : (cutL s.data.toList).2 with
    | false =>
      refine parse_pos_wide s hs hf _ rfl (by omega) ?_ hb w
      rcases Int.lt_or_le ((numOf (cutL s.data.toList).1 : Nat) : Int) 170141183460469231731687303715884105728 with h1 | h1
      · exact absurd (.inl ⟨hb, h1⟩) hno
      · exact h1
    | true =>
      refine parse_neg_wide s hs hf _ rfl (by omega) ?_ hb w
      rcases Int.lt_or_le 170141183460469231731687303715884105728 ((numOf (cutL s.data.toList).1 : Nat) : Int) with h1 | h1
      · exact h1
      · exact absurd (.inr ⟨hb, h1⟩) hno
theorem parse_form (s : ByteArray) (hs : s.size ≤ maxLen) (hf : ¬ psF s.data.toList) (w : World) :
    Calls Try.prog 16 #[.string s] w fun e w' => e = .returned (.tuple #[.agg #[.int .i64 0, .int .u64 0], .int .i64 3]) ∧ Below w.heap.size w w' := parse_bad s hs hf w
/-- What Print answers. -/
theorem print_any (x : Int) (x1 : -170141183460469231731687303715884105728 ≤ x) (x2 : x < 170141183460469231731687303715884105728) (w : World) :
    Calls Try.prog 18 #[.agg #[.int .i64 (hi x), .int .u64 (lo x)]] w fun e w' => e = .returned (.string ⟨(pr x).toArray⟩) ∧ Below w.heap.size w w' := by
  by_cases h : x < 0
  · have e : x = -((-x).toNat : Int) := by omega
    have hp := print_neg (-x).toNat (by omega) (by omega) w
    rw [← e] at hp
    refine hp.mono ?_
    rintro e w' ⟨⟨L, hL, _, rfl⟩, hb⟩
    refine ⟨?_, hb⟩
    unfold pr
    rw [if_pos h, isLen_uni (dl_is _) hL]
  · have e : x = (x.toNat : Int) := by omega
    have hp := print_pos x.toNat (by omega) w
    rw [← e] at hp
    refine hp.mono ?_
    rintro e w' ⟨⟨L, hL, _, rfl⟩, hb⟩
    refine ⟨?_, hb⟩
    unfold pr
    rw [if_neg h, isLen_uni (dl_is _) hL]
theorem pr_len (x : Int) (x1 : -170141183460469231731687303715884105728 ≤ x) (x2 : x < 170141183460469231731687303715884105728) : (pr x).length ≤ 40 := by
  have hb : ∀ n : Nat, n ≤ 170141183460469231731687303715884105728 → dl n ≤ 39 := by
    intro n hn
    rcases Nat.lt_or_ge 39 (dl n) with h | h
    · have h1 := isLen_ge (dl_is n) (by omega)
      have h2 : 10 ^ 39 ≤ 10 ^ (dl n - 1) := Nat.pow_le_pow_right (by omega) (by omega)
      omega
    · exact h
  unfold pr
  split
  · rw [List.length_cons, decs_len]; have := hb (-x).toNat (by omega); omega
  · rw [decs_len]; have := hb x.toNat (by omega); omega
end Go.Proofs.Ytldbglkapopbiaa
