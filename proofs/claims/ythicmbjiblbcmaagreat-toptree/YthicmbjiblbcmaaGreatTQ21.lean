/- KBm FL1 FL2 MG12 MG13, joined. -/
import Derived.Test.YthicmbjiblbcmaaGreatTQ12
import Derived.Test.YthicmbjiblbcmaaGreatTQ13
import Derived.Test.YthicmbjiblbcmaaGreatTQ15
import Derived.Test.YthicmbjiblbcmaaGreatTQ20
import Derived.BigQuiet
import Derived.Deep.QuietTactic
import Derived.Deep.LoopGhost
/- Keys go there and back, in one way alone: no program in sight. -/
namespace Go.Proofs.YthicmbjiblbcmaaGreat
open Go.RowKit Go.Joins

theorem pdF_jb (L : List ByteArray) : ∀ (n : Nat) (T : List UInt8) (A : List ByteArray), L.length < n → pdF n (jb L ++ 0 :: T) A = some (A ++ L, T) := by
  induction L with
  | nil =>
    intro n T A h
    cases n with
    | zero => simp at h
    | succ n => show pdF (n + 1) (0 :: T) A = _; rw [pdF, if_pos (by decide)]; simp
  | cons s L ih =>
    intro n T A h
    cases n with
    | zero => simp at h
    | succ n =>
      have e : rtF (tx s.data.toList ++ (jb L ++ 0 :: T)) [] 0 = (s.data.toList, (tx s.data.toList).length, 0) := by
        unfold tx
        simp only [List.append_assoc, List.cons_append, List.nil_append]
        rw [rtF_tx]
        simp [tx]
      rw [jb_cons, List.cons_append, List.append_assoc, pdF, if_neg (by decide), if_pos (by decide), e]
      simp only [if_true, List.drop_left]
      rw [ih n T _ (by simpa using h)]
      have e2 : (⟨s.data.toList.toArray⟩ : ByteArray) = s := by cases s; simp
      rw [e2]; simp
theorem pdF_taken (n : Nat) : ∀ (l : List UInt8) (A D : List ByteArray) (r : List UInt8), pdF n l A = some (D, r) → ∃ D', D = A ++ D' ∧ l = jb D' ++ 0 :: r := by
  induction n with
  | zero => intro l A D r h; simp [pdF] at h
  | succ n ih =>
    intro l A D r h
    cases l with
    | nil => simp [pdF] at h
    | cons x t =>
      rw [pdF] at h
      by_cases h0 : x.toNat = 0
      · rw [if_pos h0] at h
        simp at h
        obtain ⟨rfl, rfl⟩ := h
        have ex : x = 0 := u8_eq h0
        exact ⟨[], by simp, by rw [ex]; rfl⟩
      · rw [if_neg h0] at h
        by_cases h1 : x.toNat = 1
        · rw [if_pos h1] at h
          by_cases hE : (rtF t [] 0).2.2 = 0
          · rw [if_pos hE] at h
            obtain ⟨D', h2, h3⟩ := ih _ _ _ _ h
            have hf := rt_facts (l := t) (S := (rtF t [] 0).1) (N := (rtF t [] 0).2.1) (by rw [← hE])
            have ex : x = 1 := u8_eq h1
            refine ⟨⟨(rtF t [] 0).1.toArray⟩ :: D', by rw [h2]; simp, ?_⟩
            rw [jb_cons, ex, List.cons_append, List.append_assoc, ← h3]
            show 1 :: t = 1 :: (tx (rtF t [] 0).1.toArray.toList ++ _)
            rw [List.toList_toArray, hf.2.2.2, List.take_append_drop]
          · rw [if_neg hE] at h; simp at h
        · rw [if_neg h1] at h; simp at h
theorem rdF_kb (L : List ByteArray) (f g : Int) (h : rightBK L f g = true) : rdF (kb L f g) = some (L, f, g) := by
  obtain ⟨hm, h1, h2, h3, h4⟩ := right_facts h
  have hl := (mayB_iff.1 hm).1
  have hp : pdF 5 (kb L f g) [] = some (L, nb f ++ [UInt8.ofNat g.toNat]) := by
    rw [kb_form, pdF_jb L 5 _ [] (by omega)]; simp
  rw [rdF_some hp, if_pos (by simp [nb_len]), rnF_nb f (by omega) (by omega)]
  have e8 : ((nb f ++ [UInt8.ofNat g.toNat]).getD 8 0) = UInt8.ofNat g.toNat := by
    rw [List.getD_eq_getElem?_getD, List.getElem?_append_right (by rw [nb_len]; omega), nb_len]; rfl
  have e9 : ((UInt8.ofNat g.toNat).toNat : Int) = g := by rw [UInt8.toNat_ofNat']; omega
  rw [e8, e9]
  simp only
  rw [if_pos h]
theorem rdF_taken {l : List UInt8} {D : List ByteArray} {f g : Int} (h : rdF l = some (D, f, g)) : rightBK D f g = true ∧ kb D f g = l := by
  cases hp : pdF 5 l [] with
  | none => rw [rdF_none hp] at h; simp at h
  | some q =>
    obtain ⟨D', r⟩ := q
    rw [rdF_some hp] at h
    by_cases h9 : r.length = 9
    · rw [if_pos h9] at h
      by_cases hr : rightBK D' (rnF r).1 ((r.getD 8 0).toNat : Int) = true
      · rw [if_pos hr] at h
        simp only [Option.some.injEq, Prod.mk.injEq] at h
        obtain ⟨rfl, rfl, rfl⟩ := h
        refine ⟨hr, ?_⟩
        obtain ⟨D2, h2, h3⟩ := pdF_taken _ _ _ _ _ hp
        have e2 : D' = D2 := by simpa using h2
        subst e2
        rw [kb_form, h3]
        congr 2
        have hb := rnF9 h9
        have e4 : nb (rnF r).1 = r.take 8 := by
          refine bv_eq _ _ (by rw [nb_len]; simp; omega) ?_
          have e5 := bv_nb (rnF r).1 hb.2.2.1 hb.2.2.2
          have e6 : (rnF r).1 = (bv (r.take 8) : Int) - 9223372036854775808 := by
            unfold rnF
            rw [if_neg (by omega)]
            simp only
            have hbv := foldl_bv (r.take 8) 0
            unfold beval
            rw [hbv]; simp
          omega
        have e8 : UInt8.ofNat (((r.getD 8 0).toNat : Int)).toNat = r[8]'(by omega) := by
          have : r.getD 8 0 = r[8]'(by omega) := by simp [List.getD, h9]
          rw [this, Int.toNat_natCast]
          exact UInt8.ofNat_toNat ..
        rw [e4, e8]
        have := List.take_succ_eq_append_getElem (l := r) (i := 8) (by omega)
        rw [← this]
        exact List.take_of_length_le (by omega)
      · rw [if_neg hr] at h; simp at h
    · rw [if_neg h9] at h; simp at h
end Go.Proofs.YthicmbjiblbcmaaGreat

/- What comes of entries at a watermark: no program in sight. -/
namespace Go.Proofs.YthicmbjiblbcmaaGreat
open Go.RowKit

/-- The step of a time at a watermark. -/
noncomputable def stp (R : Rl) (t w : Int) : Nat := open Classical in if h : ∃ k, IsStep R t w k then h.choose else 0
theorem stp_is {R : Rl} (hR : RightP R) (t w : Int) : IsStep R t w (stp R t w) := by
  have h := step_exists hR t w
  unfold stp
  rw [dif_pos h]
  exact h.choose_spec
theorem stp_eq {R : Rl} (hR : RightP R) {t w : Int} {K : Nat} (h : IsStep R t w K) : stp R t w = K := (stp_is hR t w).uniq h
/-- How coarse a bucket is at a watermark, where it begins, whether it is gone. -/
noncomputable def stq (R : Rl) (w f : Int) (g : Nat) : Nat := max (stp R f w) g
noncomputable def flq (R : Rl) (w f : Int) (g : Nat) : Int := f - f % R.sz (stq R w f g)
def goneB (R : Rl) (w f : Int) : Bool := decide (endF f (R.sz (R.len - 1)) ≤ w - R.kp)
/-- A bucket of the rules. -/
structure Beg (R : Rl) (f : Int) (g : Nat) : Prop where
  gl : g < R.len
  t : isT f = true
  m : f % R.sz g = 0
theorem stepK {R : Rl} {t w v : Int} {K L : Nat} (hK : IsStep R t w K) (hL : IsStep R t v L) (h : w ≤ v) : K ≤ L := by
  rcases Nat.lt_or_ge L K with hlt | hge
  · exfalso
    rcases hK.2.1 with h0 | h0
    · omega
    · refine hL.2.2 K hlt hK.1 ?_
      unfold cnd at *; omega
  · exact hge
theorem one_step {R : Rl} (hR : RightP R) {f : Int} {g : Nat} (hb : Beg R f g) {w v : Int} (hwv : w ≤ v) : stq R v (flq R w f g) (stq R w f g) = stq R v f g ∧ flq R v (flq R w f g) (stq R w f g) = flq R v f g ∧ goneB R v (flq R w f g) = goneB R v f := by
  have hK := stp_is hR f w
  have hM := stp_is hR f v
  have hKM := stepK hK hM hwv
  rcases Nat.lt_or_ge g (stp R f w) with hlt | hge
  · have es : stq R w f g = stp R f w := by unfold stq; omega
    have hs1 := (isS_iff _).1 (sz_ok hR hK.1)
    have hq : f / R.sz (stp R f w) = flq R w f g / R.sz (stp R f w) := by
      unfold flq
      rw [es]
      have := in_bucket (t := f) (s := R.sz (stp R f w)) (y := 0) hs1.1 (Int.le_refl _) (by omega)
      rw [Int.add_zero] at this
      exact this.symm
    have hqM := quot_ge hR hq hKM hM.1
    have hst : stp R (flq R w f g) v = stp R f v := stp_eq hR (step_same hR hM hqM)
    have e1 : stq R v (flq R w f g) (stq R w f g) = stq R v f g := by
      rw [es]; unfold stq; rw [hst]; omega
    refine ⟨e1, ?_, ?_⟩
    · have e2 : stq R v f g = stp R f v := by unfold stq; omega
      show flq R w f g - flq R w f g % R.sz (stq R v (flq R w f g) (stq R w f g)) = f - f % R.sz (stq R v f g)
      rw [e1, e2]
      exact (fl_same hqM).symm
    · unfold goneB
      rw [end_same hR hq (j := R.len - 1) (by have := hK.1; omega) (by have := hK.1; omega)]
  · have es : stq R w f g = g := by unfold stq; omega
    have ef : flq R w f g = f := by unfold flq; rw [es, hb.m]; omega
    rw [es, ef]
    exact ⟨rfl, rfl, rfl⟩
theorem stq_lt {R : Rl} (hR : RightP R) {w f : Int} {g : Nat} (hg : g < R.len) : stq R w f g < R.len := by
  have := (stp_is hR f w).1
  unfold stq; omega
theorem flq_bd {R : Rl} (hR : RightP R) {f : Int} {g : Nat} (hg : g < R.len) (ht : isT f = true) (w : Int) : 0 ≤ flq R w f g ∧ flq R w f g ≤ f ∧ flq R w f g ≤ 1099511627776 := by
  have h1 := (isT_iff _).1 ht
  have h2 := (isS_iff _).1 (sz_ok hR (stq_lt hR (w := w) (f := f) hg))
  have h3 := mod_bd f (R.sz (stq R w f g)) h1.1 h2.1
  unfold flq
  omega
theorem beg_next {R : Rl} (hR : RightP R) {f : Int} {g : Nat} (hg : g < R.len) (ht : isT f = true) (w : Int) : Beg R (flq R w f g) (stq R w f g) := by
  have h := flq_bd hR hg ht w
  refine ⟨stq_lt hR hg, (isT_iff _).2 ⟨h.1, h.2.2⟩, ?_⟩
  unfold flq
  rw [fl_eq]
  exact Int.mul_emod_right ..
theorem gone_mono {R : Rl} {w v f : Int} (h : w ≤ v) (hg : goneB R w f = true) : goneB R v f = true := by
  unfold goneB at *
  simp only [decide_eq_true_eq] at *
  omega
/-- A key of the rules. -/
def FitK (R : Rl) (k : Ks) : Prop := ∃ D f g, rdF k = some (D, f, g) ∧ Beg R f g.toNat
/-- A key at a watermark. -/
noncomputable def fk (R : Rl) (w : Int) (k : Ks) : Option Ks := match rdF k with
  | none => none
  | some (D, f, g) => if goneB R w f then none else some (kb D (flq R w f g.toNat) ((stq R w f g.toNat : Nat) : Int))
theorem fk_of {R : Rl} {w : Int} {k : Ks} {D : List ByteArray} {f g : Int} (h : rdF k = some (D, f, g)) : fk R w k = if goneB R w f then none else some (kb D (flq R w f g.toNat) ((stq R w f g.toNat : Nat) : Int)) := by
  unfold fk; rw [h]
theorem rdF_key {k : Ks} {D : List ByteArray} {f g : Int} (h : rdF k = some (D, f, g)) : mayB D = true ∧ 0 ≤ f ∧ f ≤ 1099511627776 ∧ 0 ≤ g ∧ g ≤ 3 := by
  have h1 := (rdF_taken h).1
  obtain ⟨h2, h3, h4, h5, h6⟩ := right_facts h1
  exact ⟨h2, h3, h4, h5, h6⟩
theorem right_next {R : Rl} (hR : RightP R) {k : Ks} {D : List ByteArray} {f g : Int} (h : rdF k = some (D, f, g)) (hg : g.toNat < R.len) (w : Int) : rightBK D (flq R w f g.toNat) ((stq R w f g.toNat : Nat) : Int) = true := by
  obtain ⟨h1, h2, h3, h4, h5⟩ := rdF_key h
  have ht : isT f = true := (isT_iff _).2 ⟨h2, h3⟩
  have hf := flq_bd hR hg ht w
  have hs := stq_lt hR (w := w) (f := f) hg
  have h4' := hR.2.1
  unfold rightBK
  rw [h1, Bool.true_and, decide_eq_true_eq]
  omega
theorem fk_next {R : Rl} (hR : RightP R) {w : Int} {k k' : Ks} (hf : FitK R k) (h : fk R w k = some k') : FitK R k' ∧ ∃ D f g, rdF k = some (D, f, g) ∧ rdF k' = some (D, flq R w f g.toNat, ((stq R w f g.toNat : Nat) : Int)) ∧ goneB R w f = false ∧ Beg R f g.toNat := by
  obtain ⟨D, f, g, hr, hb⟩ := hf
  rw [fk_of hr] at h
  by_cases hg : goneB R w f = true
  · rw [if_pos hg] at h; cases h
  · rw [if_neg hg] at h
    simp only [Option.some.injEq] at h
    subst h
    have h2 := rdF_kb D _ _ (right_next hR hr hb.gl w)
    refine ⟨⟨D, _, _, h2, ?_⟩, D, f, g, hr, h2, by simpa using hg, hb⟩
    rw [Int.toNat_natCast]
    exact beg_next hR hb.gl hb.t w
/-- LATER IS COARSER, of one key. -/
theorem fk_later {R : Rl} (hR : RightP R) {w v : Int} (hwv : w ≤ v) {k : Ks} (hf : FitK R k) : (fk R w k).bind (fk R v) = fk R v k := by
  obtain ⟨D, f, g, hr, hb⟩ := hf
  rw [fk_of hr, fk_of hr]
  by_cases hg : goneB R w f = true
  · rw [if_pos hg, if_pos (gone_mono hwv hg)]; rfl
  · rw [if_neg hg]
    have h2 := rdF_kb D _ _ (right_next hR hr hb.gl w)
    show fk R v _ = _
    rw [fk_of h2, Int.toNat_natCast]
    obtain ⟨e1, e2, e3⟩ := one_step hR hb hwv
    rw [e1, e2, e3]
theorem fk_self {R : Rl} (hR : RightP R) {w : Int} {k k' : Ks} (hf : FitK R k) (h : fk R w k = some k') : fk R w k' = some k' := by
  have := fk_later hR (Int.le_refl w) hf
  rw [h] at this
  exact this
/-- An entry that fits the rules. -/
structure FitE (R : Rl) (x : En) : Prop where
  k : FitK R x.1
  c : x.2.c ≠ 0
  r : rightB x.2 = true
def FitL (R : Rl) (L : List En) : Prop := ∀ x ∈ L, FitE R x
theorem mrg_pos {a b : Ag} (ha : Gd a) (hb : Gd b) (h1 : a.c ≠ 0) : (mrg a b).c ≠ 0 := by
  by_cases h2 : b.c = 0
  · have e : mrg a b = a := by unfold mrg; rw [if_neg h1, if_pos h2]
    rw [e]; exact h1
  · rw [mrg_both a b h1 h2]
    dsimp only
    have c1 := ha.c.1
    have c2 := hb.c.1
    unfold cntF
    split <;> omega
def PosE (L : List En) : Prop := ∀ x ∈ L, x.2.c ≠ 0
theorem ins_pos {x : En} (hx : Gd x.2) (hp : x.2.c ≠ 0) : ∀ {L : List En}, GdE L → PosE L → PosE (ins x L)
  | [], _, _ => fun y hy => by unfold ins at hy; simp at hy; rw [hy]; exact hp
  | y :: L, hg, h => by
    have hg' := GdE.cons.1 hg
    unfold ins
    split
    · intro z hz
      rcases List.mem_cons.1 hz with rfl | hz
      · exact hp
      · exact h z hz
    · split
      · intro z hz
        rcases List.mem_cons.1 hz with rfl | hz
        · exact mrg_pos hx hg'.1 hp
        · exact h z (List.mem_cons_of_mem _ hz)
      · intro z hz
        rcases List.mem_cons.1 hz with rfl | hz
        · exact h z (List.mem_cons_self ..)
        · exact ins_pos hx hp hg'.2 (fun u hu => h u (List.mem_cons_of_mem _ hu)) z hz
theorem can_pos : ∀ {A : List En}, GdE A → PosE A → PosE (can A)
  | [], _, _ => fun _ h => by cases h
  | x :: A, hg, h => by
    have hg' := GdE.cons.1 hg
    exact ins_pos hg'.1 (h x (List.mem_cons_self ..)) (can_gd hg'.2) (can_pos hg'.2 (fun u hu => h u (List.mem_cons_of_mem _ hu)))
theorem fm_mem {f : Ks → Option Ks} {M : List En} {y : En} (h : y ∈ fm f M) : ∃ x ∈ M, f x.1 = some y.1 ∧ y.2 = x.2 := by
  unfold fm at h
  obtain ⟨x, hx, e⟩ := List.mem_filterMap.1 h
  cases hf : f x.1 with
  | none => rw [hf] at e; cases e
  | some k =>
    rw [hf] at e
    simp only [Option.map_some, Option.some.injEq] at e
    subst e
    exact ⟨x, hx, hf, rfl⟩
theorem fm_len (f : Ks → Option Ks) (M : List En) : (fm f M).length ≤ M.length := List.length_filterMap_le _ _
/-- Entries at a watermark. -/
noncomputable def foldF (R : Rl) (w : Int) (L : List En) : List En := can (fm (fk R w) L)
theorem foldF_gd {R : Rl} {w : Int} {L : List En} (h : GdE L) : GdE (foldF R w L) := can_gd (fm_gd _ h)
theorem foldF_srt (R : Rl) (w : Int) (L : List En) : SrtE (foldF R w L) := can_srt _
theorem foldF_len (R : Rl) (w : Int) (L : List En) : (foldF R w L).length ≤ L.length := Nat.le_trans (can_len _) (fm_len _ _)
theorem foldF_key {R : Rl} {w : Int} {L : List En} {y : En} (h : y ∈ foldF R w L) : ∃ x ∈ L, fk R w x.1 = some y.1 := by
  obtain ⟨z, hz, e⟩ := can_mem h
  obtain ⟨x, hx, e2, _⟩ := fm_mem hz
  exact ⟨x, hx, by rw [e2, e]⟩
theorem foldF_fit {R : Rl} (hR : RightP R) {w : Int} {L : List En} (hg : GdE L) (h : FitL R L) : FitL R (foldF R w L) := by
  intro y hy
  obtain ⟨x, hx, e⟩ := foldF_key hy
  refine ⟨(fk_next hR (h x hx).k e).1, ?_, (foldF_gd hg y hy).r⟩
  refine can_pos (fm_gd _ hg) ?_ y hy
  intro z hz
  obtain ⟨u, hu, _, e2⟩ := fm_mem hz
  rw [e2]; exact (h u hu).c
theorem foldF_fix {R : Rl} (hR : RightP R) {w : Int} {L : List En} (h : FitL R L) : ∀ y ∈ foldF R w L, fk R w y.1 = some y.1 := by
  intro y hy
  obtain ⟨x, hx, e⟩ := foldF_key hy
  exact fk_self hR (h x hx).k e
theorem fm_fm (f g : Ks → Option Ks) (M : List En) : fm g (fm f M) = fm (fun k => (f k).bind g) M := by
  induction M with
  | nil => rfl
  | cons x M ih =>
    rw [fm_cons, fm_cons]
    cases hf : f x.1 with
    | none => simp only [Option.bind_none]; exact ih
    | some k =>
      simp only [Option.bind_some]
      rw [fm_cons]
      cases g k with
      | none => exact ih
      | some m => rw [ih]
theorem fm_congr {f g : Ks → Option Ks} : ∀ {M : List En}, (∀ x ∈ M, f x.1 = g x.1) → fm f M = fm g M
  | [], _ => rfl
  | x :: M, h => by
    rw [fm_cons, fm_cons, h x (List.mem_cons_self ..), fm_congr (fun y hy => h y (List.mem_cons_of_mem _ hy))]
/-- LATER IS COARSER. -/
theorem foldF_later {R : Rl} (hR : RightP R) {w v : Int} (hwv : w ≤ v) {L : List En} (hg : GdE L) (h : FitL R L) : foldF R v (foldF R w L) = foldF R v L := by
  unfold foldF
  show ap (fm (fk R v) (can _)) [] = _
  rw [can_fm (fk R v) (fm_gd _ hg) GdE.nil, fm_fm, fm_congr (fun x hx => fk_later hR hwv (h x hx).k)]; rfl
/-- What forbids to fold. -/
noncomputable def chkF (R : Rl) (w : Int) (L : List En) : Int := open Classical in if fE R 0 w ≠ 0 then fE R 0 w else if SrtE L then (if FitL R L then 0 else 3) else 50
theorem chkF_ok {R : Rl} {w : Int} {L : List En} (h : chkF R w L = 0) : fE R 0 w = 0 ∧ RightP R ∧ isT w = true ∧ SrtE L ∧ FitL R L := by
  unfold chkF at h
  split at h
  · rename_i h1; exact absurd h h1
  · rename_i h1
    have h1' : fE R 0 w = 0 := Classical.not_not.1 h1
    obtain ⟨a, _, b⟩ := fE_ok h1'
    split at h
    · rename_i h2
      split at h
      · rename_i h3
        exact ⟨h1', a, b, h2, h3⟩
      · cases h
    · cases h
theorem chkF_of {R : Rl} {w : Int} {L : List En} (h1 : fE R 0 w = 0) (h2 : SrtE L) (h3 : FitL R L) : chkF R w L = 0 := by
  unfold chkF
  rw [if_neg (fun h => h h1), if_pos h2, if_pos h3]
/-- Would folding change them? -/
noncomputable def staleF (R : Rl) (w : Int) (L : List En) : Bool := L.any fun x => decide (fk R w x.1 ≠ some x.1)
theorem staleF_of {R : Rl} {w : Int} {L : List En} (h : ∀ x ∈ L, fk R w x.1 = some x.1) : staleF R w L = false := by
  unfold staleF
  rw [List.any_eq_false]
  intro x hx
  simp [h x hx]
theorem fk_stale {R : Rl} (hR : RightP R) {w : Int} {k : Ks} {D : List ByteArray} {f g : Int} (hr : rdF k = some (D, f, g)) (hg : g.toNat < R.len) : (fk R w k = some k) ↔ (flq R w f g.toNat = f ∧ ((stq R w f g.toNat : Nat) : Int) = g ∧ goneB R w f = false) := by
  rw [fk_of hr]
  have hk := (rdF_taken hr).2
  constructor
  · intro h
    by_cases hgo : goneB R w f = true
    · rw [if_pos hgo] at h; cases h
    · rw [if_neg hgo] at h
      simp only [Option.some.injEq] at h
      have h2 := rdF_kb D _ _ (right_next hR hr hg w)
      rw [h, hr] at h2
      simp only [Option.some.injEq, Prod.mk.injEq, true_and] at h2
      exact ⟨h2.1.symm, h2.2.symm, by simpa using hgo⟩
  · rintro ⟨h1, h2, h3⟩
    rw [h3, h1, h2]
    simp [hk]
end Go.Proofs.YthicmbjiblbcmaaGreat

/- The contracts of fold's fault, begins and fateOf. -/
namespace Go.Proofs.YthicmbjiblbcmaaGreat
open Go.RowKit

/-- What Next leaves. -/
def NxQ (lo hh h : Nat) (T : List Tg) (kv : Value) (a : Ag) (ok : Bool) (w : World) : Prop := match T with
  | [] => ok = false ∧ HS w lo hh h []
  | t :: T' => ok = true ∧ a = t.2 ∧ HS w lo hh h T' ∧ Own w lo kv t.1.1
def NxR (lo hh h : Nat) (T : List Tg) (w : World) (e : Ending) (w' : World) : Prop := Fr lo hh w w' ∧ hh ≤ w'.heap.size ∧ ∃ (sa : Option Addr) (sn sc : Nat) (a : Ag) (r : Int) (ok : Bool), e = .returned (.tuple #[env (.slice sa sn sc) a, .int .i64 r, .bool ok]) ∧ NxQ lo hh h T (.slice sa sn sc) a ok w'
theorem next_q (lo hh h : Nat) (T : List Tg) (w : World) (H : HS w lo hh h T) : Calls Tryz.prog 24 #[.pointer (some ⟨h, 0, none⟩)] w (NxR lo hh h T w) := by
  refine (next_any lo hh h T w H).mono ?_
  cases T with
  | nil =>
    rintro e w' ⟨hf, rfl, hs⟩
    exact ⟨hf, Nat.le_trans H.z hf.b.size, none, 0, 0, agZ, 0, false, rfl, rfl, hs⟩
  | cons t T =>
    rintro e w' ⟨hf, kv, rfl, ho, hs⟩
    obtain ⟨sa, sc, rfl, _⟩ := ho.form
    exact ⟨hf, Nat.le_trans H.z hf.b.size, sa, _, sc, t.2, _, true, rfl, rfl, rfl, hs, ho⟩
theorem NxQ.below {lo hh h : Nat} {T : List Tg} {kv : Value} {a : Ag} {ok : Bool} {A B : World} (H : NxQ lo hh h T kv a ok A) (hb : Below A.heap.size A B) : NxQ lo hh h T kv a ok B := by
  cases T with
  | nil => exact ⟨H.1, H.2.below hb⟩
  | cons t T => exact ⟨H.1, H.2.1, H.2.2.1.below hb, H.2.2.2.below hb⟩
theorem HS.under {A B : World} {lo hh h : Nat} {T : List Tg} (H : HS A lo hh h T) (hk : ∀ k, k < hh → B.heap[k]? = A.heap[k]?) (hu : ∀ (k : Nat) (cs : Array Value) (fr : Nat × Nat), A.heap[k]? = some (Obj.cells cs 5 fr) → B.heap[k]? = some (Obj.cells cs 5 fr)) (hz : A.heap.size ≤ B.heap.size) : HS B lo hh h T := by
  obtain ⟨P, h1, h2, h3, h4⟩ := H.m
  exact ⟨⟨P, h1.under hk hu, h2, h3, h4⟩, H.s, Nat.le_trans H.z hz⟩
theorem NxQ.under {lo hh h : Nat} {T : List Tg} {kv : Value} {a : Ag} {ok : Bool} {A B : World} (H : NxQ lo hh h T kv a ok A) (hk : ∀ k, k < hh → B.heap[k]? = A.heap[k]?) (hu : ∀ (k : Nat) (cs : Array Value) (fr : Nat × Nat), A.heap[k]? = some (Obj.cells cs 5 fr) → B.heap[k]? = some (Obj.cells cs 5 fr)) (hz : A.heap.size ≤ B.heap.size) : NxQ lo hh h T kv a ok B := by
  cases T with
  | nil => exact ⟨H.1, H.2.under hk hu hz⟩
  | cons t T => exact ⟨H.1, H.2.1, H.2.2.1.under hk hu hz, own_kp H.2.2.2 hu⟩
def AlPost (rs : List (List En)) (w : World) (e : Ending) (w' : World) : Prop :=
  Below w.heap.size w w' ∧ ((rowsF rs ≠ 0 ∧ e = .returned (.tuple #[.slice none 0 0, .int .i64 (rowsF rs)])) ∨ (rowsF rs = 0 ∧ ∃ v xs, e = .returned (.tuple #[v, .int .i64 0]) ∧ EOwn w' w.heap.size v xs ∧ xs.map evE = allF rs ∧ ∀ x ∈ xs, CnOk x.a))
theorem rReads_cn {w : World} {v : Value} {rs : List (List En)} (h : RReads w v rs) : ∀ r ∈ rs, ∀ x ∈ r, CnOk x.2 := by
  obtain ⟨a, cap, rfl, h1, h2, h3⟩ := h
  intro r hr
  rcases h3 with rfl | ⟨b, off, _, _, h6⟩
  · cases hr
  · obtain ⟨j, hj, rfl⟩ := List.getElem_of_mem hr
    obtain ⟨ev, _, h7⟩ := h6 j hj
    exact h7.ok
/-- What the loop of All keeps. -/
structure AlI (rs : List (List En)) (w : World) (hh h b : Nat) (D T : List Tg) (xs : List Ev) (al kv : Value) (a : Ag) (ok : Bool) (wr : World) : Prop where
  s : seqF rs = D ++ T
  e : AlE w.heap.size hh al xs (grpG D) wr
  q : NxQ w.heap.size hh h T kv a ok wr
  x : wr.heap[b]? = some (.cells #[kv, .int .u64 a.c, .bool a.o, .int .i64 (hi a.s), .int .u64 (lo a.s), .int .i64 a.mn, .int .i64 a.mx] 56)
  l : hh ≤ b
  b : Below w.heap.size w wr
  z : w.heap.size ≤ hh ∧ hh ≤ wr.heap.size
end Go.Proofs.YthicmbjiblbcmaaGreat

/- The steps of the loop of All, in memory. -/
namespace Go.Proofs.YthicmbjiblbcmaaGreat
open Go.RowKit

theorem cur7 {cur : Array Value} {vs : List Value} (hs : cur.size = vs.length) (h : ∀ i (hi : i < vs.length), cur[0 + i]? = some vs[i]) : cur = vs.toArray := by
  apply Array.ext
  · simpa using hs
  · intro i h1 h2
    have hi : i < vs.length := by simpa using h2
    have := h i hi
    rw [Nat.zero_add, Array.getElem?_eq_getElem h1] at this
    simpa using this
theorem al_tail {rs : List (List En)} {w w5 w6 w7 W : World} {hh h : Nat} {D T : List Tg} {t : Tg} {xs : List Ev} {al kv : Value} {b7 : Array Value} {a : Ag} {ok : Bool} (hs : seqF rs = D ++ t :: T) (he : AlE w.heap.size hh al xs (grpG (D ++ [t])) w5) (hlo : w.heap.size ≤ hh) (hb5 : Below w.heap.size w w5) (hz5 : hh ≤ w5.heap.size)
    (hb6 : Below w5.heap.size w5 w6) (hx6 : w6.heap[w5.heap.size]? = some (.cells b7 56)) (hf7 : Fr w.heap.size hh w6 w7) (hz7 : hh ≤ w7.heap.size) (hq7 : NxQ w.heap.size hh h T kv a ok w7) (hs7 : b7.size = 7) (hW : StW w7 W w5.heap.size 0 b7 56 (c7 ⟨kv, [], a⟩))
    (hal : ∀ k, al.ownBlock = some k → k < w5.heap.size) : AlI rs w hh h w5.heap.size (D ++ [t]) T xs al kv a ok W ∧ al.ownBlock ≠ some w5.heap.size := by
  have h7 : w7.heap[w5.heap.size]? = some (.cells b7 56) := (hf7.h _ hz5 (Array.getElem?_eq_some_iff.1 hx6).1).trans hx6
  have hu : ∀ (k : Nat) (cs : Array Value) (fr : Nat × Nat), w7.heap[k]? = some (Obj.cells cs 5 fr) → W.heap[k]? = some (Obj.cells cs 5 fr) := fun k cs fr q => (hW.o k (typ_ne q h7 (by decide))).trans q
  have he7 := (he.below hb6).fr hf7
  have hne : al.ownBlock ≠ some w5.heap.size := fun e => by have := hal _ e; omega
  refine ⟨⟨by rw [hs]; simp, ⟨?_, fun x hx => own_kp (he7.k x hx) hu, he7.m, he7.c⟩, hq7.under (fun k hk => hW.o k (by omega)) hu (hW.b 0 (Nat.zero_le _)).size, ?_, hz5, ((hb5.trans (hb6.mono hb5.size)).trans hf7.b).trans (hW.b _ (Nat.le_trans hlo hz5)), hlo, Nat.le_trans hz7 (hW.b 0 (Nat.zero_le _)).size⟩, hne⟩
  · obtain ⟨q1, q2⟩ := he7.r
    refine ⟨q1, ?_⟩
    rcases q2 with q2 | ⟨g, cap, cur, hv, hg, hw, r⟩
    · exact .inl q2
    · exact .inr ⟨g, cap, cur, hv, hg, (hW.o g (fun e => hne (by rw [hv, ← e]; rfl))).trans hw, r⟩
  · obtain ⟨cur', k1, k2, k3, k4⟩ := hW.c
    rw [k1, cur7 (vs := c7 ⟨kv, [], a⟩) (by rw [k2, hs7]; rfl) k4]
    rfl
theorem news7 (w : World) (vs : List Value) {t : TypeId} : ∀ j u, vs[j]? = some u → (w.alloc (.cells vs.toArray t)).cell? ((⟨w.heap.size, 0, none⟩ : Addr).add j) = some u := by
  intro j u hj
  have ea : (⟨w.heap.size, 0, none⟩ : Addr).add j = ⟨w.heap.size, j, none⟩ := by simp [Addr.add]; omega
  rw [ea, Go.Joins.cell_of_block (heap_alloc_new _ _)]
  simpa using hj
theorem one7 (x : Ev) (h : x.kv.oneCell' = true) : ∀ u ∈ c7 x, u.oneCell' = true := by
  intro u hu
  simp only [c7, List.mem_cons, List.not_mem_nil, or_false] at hu
  rcases hu with rfl | rfl | rfl | rfl | rfl | rfl | rfl
  · exact h
  all_goals rfl
theorem al_append {w wr w5 : World} {hh h b : Nat} {T : List Tg} {E : List En} {t : Tg} {xs : List Ev} {al v5 kv : Value} {tmp : Obj} {bx : Array Value} {n : Nat} (he : AlE w.heap.size hh al xs E wr) (hn : xs.length = n) (ho : Own wr w.heap.size kv t.1.1) (hc : CnOk t.2)
    (hown : w5.ownsRow hh 56 7 v5 (n + 1) (xs.flatMap c7 ++ c7 ⟨kv, t.1.1, t.2⟩)) (hg : (wr.alloc tmp).grownBy w5 al.ownBlock) (hz : hh ≤ wr.heap.size) (hlo : w.heap.size ≤ hh)
    (hnb : al.ownBlock ≠ some b) (hx : wr.heap[b]? = some (.cells bx 56)) (hs : HS wr w.heap.size hh h T) (hb : Below w.heap.size w wr) :
    AlE w.heap.size hh v5 (xs ++ [⟨kv, t.1.1, t.2⟩]) (E ++ [(t.1.1, t.2)]) w5 ∧ HS w5 w.heap.size hh h T ∧ w5.heap[b]? = some (.cells bx 56) ∧ Below w.heap.size w w5 ∧ hh ≤ w5.heap.size ∧ ∀ k, v5.ownBlock = some k → k < w5.heap.size := by
  have hsz : wr.heap.size ≤ w5.heap.size := by have := hg.size; simp at this; omega
  have hrl := World.ownsRow.lt he.r
  have hrt : ∀ k, al.ownBlock = some k → ∃ cur, wr.heap[k]? = some (.cells cur 56) := by
    intro k hk
    rcases he.r.2 with ⟨q, _⟩ | ⟨g0, c0, cur, q, _, hw, _⟩
    · rw [q] at hk; simp [Value.ownBlock] at hk
    · rw [q] at hk; simp [Value.ownBlock] at hk; subst hk; exact ⟨cur, hw⟩
  have hkeep : ∀ k, k < wr.heap.size → al.ownBlock ≠ some k → w5.heap[k]? = wr.heap[k]? := fun k hk hne => (hg.block k (by simp; omega) (Ne.symm hne)).trans (Below.heap_alloc _ _ _ hk)
  have hu : ∀ (k : Nat) (cs : Array Value) (fr : Nat × Nat), wr.heap[k]? = some (Obj.cells cs 5 fr) → w5.heap[k]? = some (Obj.cells cs 5 fr) := fun k cs fr q => by
    refine (hkeep k (Array.getElem?_eq_some_iff.1 q).1 (fun e => ?_)).trans q
    obtain ⟨cur, hc⟩ := hrt k e
    rw [q] at hc
    simp at hc
  refine ⟨⟨?_, fun x hx => ?_, ?_, fun x hx => ?_⟩, hs.under (fun k hk => hkeep k (by omega) (fun e => by have := (hrl k e).1; omega)) hu hsz, (hkeep b (Array.getElem?_eq_some_iff.1 hx).1 hnb).trans hx, ?_, Nat.le_trans hz hsz, fun k hk => (World.ownsRow.lt hown k hk).2⟩
  · rw [List.length_append, List.flatMap_append, hn]
    simpa using hown
  · rcases List.mem_append.1 hx with hx | hx
    · exact own_kp (he.k x hx) hu
    · obtain rfl : x = ⟨kv, t.1.1, t.2⟩ := by simpa using hx
      exact own_kp ho hu
  · rw [List.map_append, he.m]; rfl
  · rcases List.mem_append.1 hx with hx | hx
    · exact he.c x hx
    · obtain rfl : x = ⟨kv, t.1.1, t.2⟩ := by simpa using hx
      exact hc
  · exact hb.trans (((Below.refl _ _).alloc (Nat.le_trans hlo hz) tmp).grown hg (by simp; omega) (fun k hk => Nat.le_trans hlo (hrl k hk).1))
theorem stop_app {ops : Array Oper} {rest : List Oper} {op : Oper} {a : Act} {w : World} {Q : Exit → Act → World → Prop} (s x : Operand) (t : TypeId) (_ho : op.op = .call { callee := .builtin .append, args := #[s, x], argTypes := #[t, t] }) (h : Stop (wpList Tryz.prog ops Q (op :: rest) a w)) : wpList Tryz.prog ops Q (op :: rest) a w := h.out
theorem row_form {w : World} {base sz n : Nat} {e : TypeId} {v : Value} {xs : List Value} (h : w.ownsRow base e sz v n xs) : ∃ a cap, v = .slice a n cap := by
  rcases h.2 with ⟨h1, h2⟩ | ⟨g, cap, cur, hv, _⟩
  · exact ⟨none, 0, by rw [h1, h2]⟩
  · exact ⟨_, cap, hv⟩
theorem al_merge {w wr wm W : World} {hh h b g cap m : Nat} {T : List Tg} {E : List En} {t : Tg} {xs : List Ev} {cur bx : Array Value} (he : AlE w.heap.size hh (.slice (some ⟨g, 0, none⟩) (m + 1) cap) xs E wr) (hn : xs.length = m + 1) (hc : CnOk t.2) (hk : (xs[m]'(by omega)).k = t.1.1)
    (hm : Below wr.heap.size wr wm) (hcur : wm.heap[g]? = some (.cells cur 56)) (hW : StW wm W g (m * 7 + 1) cur 56 (a6 (mrg (xs[m]'(by omega)).a t.2))) (hlo : w.heap.size ≤ hh)
    (hnb : (Value.slice (some ⟨g, 0, none⟩) (m + 1) cap).ownBlock ≠ some b) (hx : wr.heap[b]? = some (.cells bx 56)) (hs : HS wr w.heap.size hh h T) (hb : Below w.heap.size w wr) :
    AlE w.heap.size hh (.slice (some ⟨g, 0, none⟩) (m + 1) cap) (xs.set m ⟨(xs[m]'(by omega)).kv, (xs[m]'(by omega)).k, mrg (xs[m]'(by omega)).a t.2⟩) (addG E t) W ∧ HS W w.heap.size hh h T ∧ W.heap[b]? = some (.cells bx 56) ∧ Below w.heap.size w W ∧ hh ≤ W.heap.size ∧ ∀ k, (Value.slice (some ⟨g, 0, none⟩) (m + 1) cap).ownBlock = some k → k < W.heap.size := by
  have hem := he.below hm
  have hsm := hs.below hm
  have hr := hem.r
  rw [hn] at hr
  have hgl := World.ownsRow.lt hr g rfl
  have hszW : wm.heap.size ≤ W.heap.size := (hW.b 0 (Nat.zero_le _)).size
  have hu : ∀ (k : Nat) (cs : Array Value) (fr : Nat × Nat), wm.heap[k]? = some (Obj.cells cs 5 fr) → W.heap[k]? = some (Obj.cells cs 5 fr) := fun k cs fr q => (hW.o k (typ_ne q hcur (by decide))).trans q
  have hset := row_setA hr hcur hW (by omega) hn
  have hmem : ∀ x ∈ xs.set m ⟨(xs[m]'(by omega)).kv, (xs[m]'(by omega)).k, mrg (xs[m]'(by omega)).a t.2⟩, x ∈ xs ∨ x = ⟨(xs[m]'(by omega)).kv, (xs[m]'(by omega)).k, mrg (xs[m]'(by omega)).a t.2⟩ := fun x hx => List.mem_or_eq_of_mem_set hx
  have hEl : E.length = m + 1 := by rw [← he.m]; simpa using hn
  have hEm : E[m]'(by omega) = evE (xs[m]'(by omega)) := by
    have : E[m]'(by omega) = (xs.map evE)[m]'(by simp; omega) := by simp only [he.m]
    rw [this]; simp
  refine ⟨⟨by rw [show (xs.set m ⟨(xs[m]'(by omega)).kv, (xs[m]'(by omega)).k, mrg (xs[m]'(by omega)).a t.2⟩).length = m + 1 by simp [hn]]; exact hset, fun x hx => ?_, ?_, fun x hx => ?_⟩, hsm.under (fun k hk => hW.o k (by have := hgl.1; omega)) hu hszW, ?_, ?_, Nat.le_trans hsm.z hszW, fun k hk => ?_⟩
  · rcases hmem x hx with hx | rfl
    · exact own_kp (hem.k x hx) hu
    · exact own_kp (hem.k (xs[m]'(by omega)) (List.getElem_mem _)) hu
  · have h1 : addG E t = E.set (E.length - 1) (t.1.1, mrg (E[E.length - 1]'(by omega)).2 t.2) := addG_same (by omega) (by
      have e1 : E.length - 1 = m := by omega
      simp only [e1, hEm]; exact hk)
    have e1 : E.length - 1 = m := by omega
    rw [h1]
    simp only [e1, hEm]
    rw [List.map_set, he.m, ← hk]
    rfl
  · rcases hmem x hx with hx | rfl
    · exact he.c x hx
    · exact mrg_cn (he.c (xs[m]'(by omega)) (List.getElem_mem _)) hc
  · have hbl := (Array.getElem?_eq_some_iff.1 hx).1
    refine (hW.o b (fun e => hnb (by rw [e]; rfl))).trans ((hm.block b hbl).trans hx)
  · exact (hb.trans (hm.mono hb.size)).trans (hW.b _ (Nat.le_trans hlo hgl.1))
  · simp [Value.ownBlock] at hk
    omega

end Go.Proofs.YthicmbjiblbcmaaGreat
