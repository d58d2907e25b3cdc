/- KBm FL1 FL2 MG12 MG13, joined. -/
import Derived.Test.YtoenijflijfogaaGreatRC8
import Derived.Test.YtoenijflijfogaaGreatRC9
import Derived.Test.YtoenijflijfogaaGreatRC11
import Derived.Test.YtoenijflijfogaaGreatRC16
import Derived.BigQuiet
import Derived.Deep.QuietTactic
import Derived.Deep.LoopGhost
/- Keys go there and back, in one way alone: no program in sight. -/
namespace Go.Proofs.YtoenijflijfogaaGreat
open Go.RowKit Go.Joins

theorem pdF_jb (L : List ByteArray) : ∀ (n : Nat) (T : List UInt8) (A : List ByteArray), L.length < n → pdF n (jb L ++ 0 :: T) A = some (A ++ L, T) := by
  induction L with
  | nil =>
    intro n T A h
    cases n with
    | zero => simp at h
    | succ n => show pdF (n + 1) (0 :: T) A = _; rw [pdF, if_pos (by decide)]; simp
  | cons s L ih =>
    intro n T A h
    cases n with
    | zero => simp at h
    | succ n =>
      have e : rtF (tx s.data.toList ++ (jb L ++ 0 :: T)) [] 0 = (s.data.toList, (tx s.data.toList).length, 0) := by
        unfold tx
        simp only [List.append_assoc, List.cons_append, List.nil_append]
        rw [rtF_tx]
        simp [tx]
      rw [jb_cons, List.cons_append, List.append_assoc, pdF, if_neg (by decide), if_pos (by decide), e]
      simp only [if_true, List.drop_left]
      rw [ih n T _ (by simpa using h)]
      have e2 : (⟨s.data.toList.toArray⟩ : ByteArray) = s := by cases s; simp
      rw [e2]; simp
theorem pdF_taken (n : Nat) : ∀ (l : List UInt8) (A D : List ByteArray) (r : List UInt8), pdF n l A = some (D, r) → ∃ D', D = A ++ D' ∧ l = jb D' ++ 0 :: r := by
  induction n with
  | zero => intro l A D r h; simp [pdF] at h
  | succ n ih =>
    intro l A D r h
    cases l with
    | nil => simp [pdF] at h
    | cons x t =>
      rw [pdF] at h
      by_cases h0 : x.toNat = 0
      · rw [if_pos h0] at h
        simp at h
        obtain ⟨rfl, rfl⟩ := h
        have ex : x = 0 := u8_eq h0
        exact ⟨[], by simp, by rw [ex]; rfl⟩
      · rw [if_neg h0] at h
        by_cases h1 : x.toNat = 1
        · rw [if_pos h1] at h
          by_cases hE : (rtF t [] 0).2.2 = 0
          · rw [if_pos hE] at h
            obtain ⟨D', h2, h3⟩ := ih _ _ _ _ h
            have hf := rt_facts (l := t) (S := (rtF t [] 0).1) (N := (rtF t [] 0).2.1) (by rw [← hE])
            have ex : x = 1 := u8_eq h1
            refine ⟨⟨(rtF t [] 0).1.toArray⟩ :: D', by rw [h2]; simp, ?_⟩
            rw [jb_cons, ex, List.cons_append, List.append_assoc, ← h3]
            show 1 :: t = 1 :: (tx (rtF t [] 0).1.toArray.toList ++ _)
            rw [List.toList_toArray, hf.2.2.2, List.take_append_drop]
          · rw [if_neg hE] at h; simp at h
        · rw [if_neg h1] at h; simp at h
theorem rdF_kb (L : List ByteArray) (f g : Int) (h : rightBK L f g = true) : rdF (kb L f g) = some (L, f, g) := by
  obtain ⟨hm, h1, h2, h3, h4⟩ := right_facts h
  have hl := (mayB_iff.1 hm).1
  have hp : pdF 5 (kb L f g) [] = some (L, nb f ++ [UInt8.ofNat g.toNat]) := by
    rw [kb_form, pdF_jb L 5 _ [] (by omega)]; simp
  rw [rdF_some hp, if_pos (by simp [nb_len]), rnF_nb f (by omega) (by omega)]
  have e8 : ((nb f ++ [UInt8.ofNat g.toNat]).getD 8 0) = UInt8.ofNat g.toNat := by
    rw [List.getD_eq_getElem?_getD, List.getElem?_append_right (by rw [nb_len]; omega), nb_len]; rfl
  have e9 : ((UInt8.ofNat g.toNat).toNat : Int) = g := by rw [UInt8.toNat_ofNat']; omega
  rw [e8, e9]
  simp only
  rw [if_pos h]
theorem rdF_taken {l : List UInt8} {D : List ByteArray} {f g : Int} (h : rdF l = some (D, f, g)) : rightBK D f g = true ∧ kb D f g = l := by
  cases hp : pdF 5 l [] with
  | none => rw [rdF_none hp] at h; simp at h
  | some q =>
    obtain ⟨D', r⟩ := q
    rw [rdF_some hp] at h
    by_cases h9 : r.length = 9
    · rw [if_pos h9] at h
      by_cases hr : rightBK D' (rnF r).1 ((r.getD 8 0).toNat : Int) = true
      · rw [if_pos hr] at h
        simp only [Option.some.injEq, Prod.mk.injEq] at h
        obtain ⟨rfl, rfl, rfl⟩ := h
        refine ⟨hr, ?_⟩
        obtain ⟨D2, h2, h3⟩ := pdF_taken _ _ _ _ _ hp
        have e2 : D' = D2 := by simpa using h2
        subst e2
        rw [kb_form, h3]
        congr 2
        have hb := rnF9 h9
        have e4 : nb (rnF r).1 = r.take 8 := by
          refine bv_eq _ _ (by rw [nb_len]; simp; omega) ?_
          have e5 := bv_nb (rnF r).1 hb.2.2.1 hb.2.2.2
          have e6 : (rnF r).1 = (bv (r.take 8) : Int) - 9223372036854775808 := by
            unfold rnF
            rw [if_neg (by omega)]
            simp only
            have hbv := foldl_bv (r.take 8) 0
            unfold beval
            rw [hbv]; simp
          omega
        have e8 : UInt8.ofNat (((r.getD 8 0).toNat : Int)).toNat = r[8]'(by omega) := by
          have : r.getD 8 0 = r[8]'(by omega) := by simp [List.getD, h9]
          rw [this, Int.toNat_natCast]
          exact UInt8.ofNat_toNat ..
        rw [e4, e8]
        have := List.take_succ_eq_append_getElem (l := r) (i := 8) (by omega)
        rw [← this]
        exact List.take_of_length_le (by omega)
      · rw [if_neg hr] at h; simp at h
    · rw [if_neg h9] at h; simp at h
end Go.Proofs.YtoenijflijfogaaGreat

/- What comes of entries at a watermark: no program in sight. -/
namespace Go.Proofs.YtoenijflijfogaaGreat
open Go.RowKit

/-- The step of a time at a watermark. -/
noncomputable def stp (R : Rl) (t w : Int) : Nat := open Classical in if h : ∃ k, IsStep R t w k then h.choose else 0
theorem stp_is {R : Rl} (hR : RightP R) (t w : Int) : IsStep R t w (stp R t w) := by
  have h := step_exists hR t w
  unfold stp
  rw [dif_pos h]
  exact h.choose_spec
theorem stp_eq {R : Rl} (hR : RightP R) {t w : Int} {K : Nat} (h : IsStep R t w K) : stp R t w = K := (stp_is hR t w).uniq h
/-- How coarse a bucket is at a watermark, where it begins, whether it is gone. -/
noncomputable def stq (R : Rl) (w f : Int) (g : Nat) : Nat := max (stp R f w) g
noncomputable def flq (R : Rl) (w f : Int) (g : Nat) : Int := f - f % R.sz (stq R w f g)
def goneB (R : Rl) (w f : Int) : Bool := decide (endF f (R.sz (R.len - 1)) ≤ w - R.kp)
/-- A bucket of the rules. -/
structure Beg (R : Rl) (f : Int) (g : Nat) : Prop where
  gl : g < R.len
  t : isT f = true
  m : f % R.sz g = 0
theorem stq_lt {R : Rl} (hR : RightP R) {w f : Int} {g : Nat} (hg : g < R.len) : stq R w f g < R.len := by
  have := (stp_is hR f w).1
  unfold stq; omega
theorem flq_bd {R : Rl} (hR : RightP R) {f : Int} {g : Nat} (hg : g < R.len) (ht : isT f = true) (w : Int) : 0 ≤ flq R w f g ∧ flq R w f g ≤ f ∧ flq R w f g ≤ 1099511627776 := by
  have h1 := (isT_iff _).1 ht
  have h2 := (isS_iff _).1 (sz_ok hR (stq_lt hR (w := w) (f := f) hg))
  have h3 := mod_bd f (R.sz (stq R w f g)) h1.1 h2.1
  unfold flq
  omega
theorem beg_next {R : Rl} (hR : RightP R) {f : Int} {g : Nat} (hg : g < R.len) (ht : isT f = true) (w : Int) : Beg R (flq R w f g) (stq R w f g) := by
  have h := flq_bd hR hg ht w
  refine ⟨stq_lt hR hg, (isT_iff _).2 ⟨h.1, h.2.2⟩, ?_⟩
  unfold flq
  rw [fl_eq]
  exact Int.mul_emod_right ..
/-- A key of the rules. -/
def FitK (R : Rl) (k : Ks) : Prop := ∃ D f g, rdF k = some (D, f, g) ∧ Beg R f g.toNat
/-- A key at a watermark. -/
noncomputable def fk (R : Rl) (w : Int) (k : Ks) : Option Ks := match rdF k with
  | none => none
  | some (D, f, g) => if goneB R w f then none else some (kb D (flq R w f g.toNat) ((stq R w f g.toNat : Nat) : Int))
theorem fk_of {R : Rl} {w : Int} {k : Ks} {D : List ByteArray} {f g : Int} (h : rdF k = some (D, f, g)) : fk R w k = if goneB R w f then none else some (kb D (flq R w f g.toNat) ((stq R w f g.toNat : Nat) : Int)) := by
  unfold fk; rw [h]
theorem rdF_key {k : Ks} {D : List ByteArray} {f g : Int} (h : rdF k = some (D, f, g)) : mayB D = true ∧ 0 ≤ f ∧ f ≤ 1099511627776 ∧ 0 ≤ g ∧ g ≤ 3 := by
  have h1 := (rdF_taken h).1
  obtain ⟨h2, h3, h4, h5, h6⟩ := right_facts h1
  exact ⟨h2, h3, h4, h5, h6⟩
theorem right_next {R : Rl} (hR : RightP R) {k : Ks} {D : List ByteArray} {f g : Int} (h : rdF k = some (D, f, g)) (hg : g.toNat < R.len) (w : Int) : rightBK D (flq R w f g.toNat) ((stq R w f g.toNat : Nat) : Int) = true := by
  obtain ⟨h1, h2, h3, h4, h5⟩ := rdF_key h
  have ht : isT f = true := (isT_iff _).2 ⟨h2, h3⟩
  have hf := flq_bd hR hg ht w
  have hs := stq_lt hR (w := w) (f := f) hg
  have h4' := hR.2.1
  unfold rightBK
  rw [h1, Bool.true_and, decide_eq_true_eq]
  omega
theorem fk_next {R : Rl} (hR : RightP R) {w : Int} {k k' : Ks} (hf : FitK R k) (h : fk R w k = some k') : FitK R k' ∧ ∃ D f g, rdF k = some (D, f, g) ∧ rdF k' = some (D, flq R w f g.toNat, ((stq R w f g.toNat : Nat) : Int)) ∧ goneB R w f = false ∧ Beg R f g.toNat := by
  obtain ⟨D, f, g, hr, hb⟩ := hf
  rw [fk_of hr] at h
  by_cases hg : goneB R w f = true
  · rw [if_pos hg] at h; cases h
  · rw [if_neg hg] at h
    simp only [Option.some.injEq] at h
    subst h
    have h2 := rdF_kb D _ _ (right_next hR hr hb.gl w)
    refine ⟨⟨D, _, _, h2, ?_⟩, D, f, g, hr, h2, by simpa using hg, hb⟩
    rw [Int.toNat_natCast]
    exact beg_next hR hb.gl hb.t w
/-- An entry that fits the rules. -/
structure FitE (R : Rl) (x : En) : Prop where
  k : FitK R x.1
  c : x.2.c ≠ 0
  r : rightB x.2 = true
def FitL (R : Rl) (L : List En) : Prop := ∀ x ∈ L, FitE R x
theorem mrg_pos {a b : Ag} (ha : Gd a) (hb : Gd b) (h1 : a.c ≠ 0) : (mrg a b).c ≠ 0 := by
  by_cases h2 : b.c = 0
  · have e : mrg a b = a := by unfold mrg; rw [if_neg h1, if_pos h2]
    rw [e]; exact h1
  · rw [mrg_both a b h1 h2]
    dsimp only
    have c1 := ha.c.1
    have c2 := hb.c.1
    unfold cntF
    split <;> omega
def PosE (L : List En) : Prop := ∀ x ∈ L, x.2.c ≠ 0
theorem ins_pos {x : En} (hx : Gd x.2) (hp : x.2.c ≠ 0) : ∀ {L : List En}, GdE L → PosE L → PosE (ins x L)
  | [], _, _ => fun y hy => by unfold ins at hy; simp at hy; rw [hy]; exact hp
  | y :: L, hg, h => by
    have hg' := GdE.cons.1 hg
    unfold ins
    split
    · intro z hz
      rcases List.mem_cons.1 hz with rfl | hz
      · exact hp
      · exact h z hz
    · split
      · intro z hz
        rcases List.mem_cons.1 hz with rfl | hz
        · exact mrg_pos hx hg'.1 hp
        · exact h z (List.mem_cons_of_mem _ hz)
      · intro z hz
        rcases List.mem_cons.1 hz with rfl | hz
        · exact h z (List.mem_cons_self ..)
        · exact ins_pos hx hp hg'.2 (fun u hu => h u (List.mem_cons_of_mem _ hu)) z hz
theorem can_pos : ∀ {A : List En}, GdE A → PosE A → PosE (can A)
  | [], _, _ => fun _ h => by cases h
  | x :: A, hg, h => by
    have hg' := GdE.cons.1 hg
    exact ins_pos hg'.1 (h x (List.mem_cons_self ..)) (can_gd hg'.2) (can_pos hg'.2 (fun u hu => h u (List.mem_cons_of_mem _ hu)))
theorem fm_mem {f : Ks → Option Ks} {M : List En} {y : En} (h : y ∈ fm f M) : ∃ x ∈ M, f x.1 = some y.1 ∧ y.2 = x.2 := by
  unfold fm at h
  obtain ⟨x, hx, e⟩ := List.mem_filterMap.1 h
  cases hf : f x.1 with
  | none => rw [hf] at e; cases e
  | some k =>
    rw [hf] at e
    simp only [Option.map_some, Option.some.injEq] at e
    subst e
    exact ⟨x, hx, hf, rfl⟩
theorem fm_len (f : Ks → Option Ks) (M : List En) : (fm f M).length ≤ M.length := List.length_filterMap_le _ _
/-- Entries at a watermark. -/
noncomputable def foldF (R : Rl) (w : Int) (L : List En) : List En := can (fm (fk R w) L)
theorem foldF_gd {R : Rl} {w : Int} {L : List En} (h : GdE L) : GdE (foldF R w L) := can_gd (fm_gd _ h)
theorem foldF_srt (R : Rl) (w : Int) (L : List En) : SrtE (foldF R w L) := can_srt _
theorem foldF_len (R : Rl) (w : Int) (L : List En) : (foldF R w L).length ≤ L.length := Nat.le_trans (can_len _) (fm_len _ _)
theorem foldF_key {R : Rl} {w : Int} {L : List En} {y : En} (h : y ∈ foldF R w L) : ∃ x ∈ L, fk R w x.1 = some y.1 := by
  obtain ⟨z, hz, e⟩ := can_mem h
  obtain ⟨x, hx, e2, _⟩ := fm_mem hz
  exact ⟨x, hx, by rw [e2, e]⟩
theorem foldF_fit {R : Rl} (hR : RightP R) {w : Int} {L : List En} (hg : GdE L) (h : FitL R L) : FitL R (foldF R w L) := by
  intro y hy
  obtain ⟨x, hx, e⟩ := foldF_key hy
  refine ⟨(fk_next hR (h x hx).k e).1, ?_, (foldF_gd hg y hy).r⟩
  refine can_pos (fm_gd _ hg) ?_ y hy
  intro z hz
  obtain ⟨u, hu, _, e2⟩ := fm_mem hz
  rw [e2]; exact (h u hu).c
theorem fm_id {f : Ks → Option Ks} : ∀ {M : List En}, (∀ x ∈ M, f x.1 = some x.1) → fm f M = M
  | [], _ => rfl
  | x :: M, h => by
    rw [fm_cons, h x (List.mem_cons_self ..), fm_id (fun y hy => h y (List.mem_cons_of_mem _ hy))]
theorem foldF_id {R : Rl} {w : Int} {L : List En} (hs : SrtE L) (h : ∀ x ∈ L, fk R w x.1 = some x.1) : foldF R w L = L := by
  unfold foldF
  rw [fm_id h, can_id hs]
/-- What forbids to fold. -/
noncomputable def chkF (R : Rl) (w : Int) (L : List En) : Int := open Classical in if fE R 0 w ≠ 0 then fE R 0 w else if SrtE L then (if FitL R L then 0 else 3) else 50
theorem chkF_ok {R : Rl} {w : Int} {L : List En} (h : chkF R w L = 0) : fE R 0 w = 0 ∧ RightP R ∧ isT w = true ∧ SrtE L ∧ FitL R L := by
  unfold chkF at h
  split at h
  · rename_i h1; exact absurd h h1
  · rename_i h1
    have h1' : fE R 0 w = 0 := Classical.not_not.1 h1
    obtain ⟨a, _, b⟩ := fE_ok h1'
    split at h
    · rename_i h2
      split at h
      · rename_i h3
        exact ⟨h1', a, b, h2, h3⟩
      · cases h
    · cases h
theorem chkF_of {R : Rl} {w : Int} {L : List En} (h1 : fE R 0 w = 0) (h2 : SrtE L) (h3 : FitL R L) : chkF R w L = 0 := by
  unfold chkF
  rw [if_neg (fun h => h h1), if_pos h2, if_pos h3]
end Go.Proofs.YtoenijflijfogaaGreat

/- The contracts of fold's fault, begins and fateOf. -/
namespace Go.Proofs.YtoenijflijfogaaGreat
open Go.RowKit

theorem step_all (R : Rl) (t wm : Int) : ∃ K, Hid (fE R t wm = 0 → IsStep R t wm K) := by
  by_cases h0 : fE R t wm = 0
  · obtain ⟨K, hK⟩ := step_exists (fE_ok h0).1 t wm; exact ⟨K, fun _ => hK⟩
  · exact ⟨0, fun h => absurd h h0⟩
set_option maxRecDepth 100000 in
set_option maxHeartbeats 1000000 in
theorem fault15_any (R : Rl) (wm : Int) (w : World) (hL : Lies R w.heap.size w) :
    Calls Tryz.prog 78 #[.agg #[.slice R.a R.len R.cap, .int .i64 R.kp], .int .i64 wm] w fun e w' => e = .returned (.int .i64 (fE R 0 wm)) ∧ Below w.heap.size w w' := by
  obtain ⟨K, HK⟩ := step_all R 0 wm
  have HL : Hid (Lies R w.heap.size w) := hL
  have HB0 : Hid (Below w.heap.size w (w.alloc (.cells #[.slice R.a R.len R.cap, .int .i64 R.kp] 24))) := new_below _ _
  have HX0 : Hid (RBox R w.heap.size (w.alloc (.cells #[.slice R.a R.len R.cap, .int .i64 R.kp] 24))) := RBox.new R w _
  have HL0 : Hid (Lies R (w.alloc (.cells #[.slice R.a R.len R.cap, .int .i64 R.kp] 24)).heap.size (w.alloc (.cells #[.slice R.a R.len R.cap, .int .i64 R.kp] 24))) := HL.out.at HB0.out
  clear hL
  go_enter Tryz.func78, Tryz.ntmps78
  go_wp2_with fail
  refine (step_any R 0 wm K HK.out _ HL0.out).mono ?_
  rintro e w1 ⟨rfl, hb1⟩
  have HB1 : Hid (Below w.heap.size w w1) := HB0.out.trans (hb1.mono HB0.out.size)
  have HX1 : Hid (RBox R w.heap.size w1) := HX0.out.below hb1
  have HL1 : Hid (Lies R w1.heap.size w1) := HL.out.at HB1.out
  clear hb1
  (try clear c0 c1)
  obtain ⟨_, c0, c1⟩ := HX1.out
  go_wp2_with fail
  go_ret
  exact ⟨rfl, HB1.out⟩
/-- Is a bucket one of the rules'? -/
def begB (R : Rl) (f : Int) (n : Nat) : Bool := decide (n < R.len) && (isT f && isS (R.sz n)) && decide (f - f % R.sz n = f)
theorem begB_iff {R : Rl} (hR : RightP R) {f : Int} {n : Nat} : begB R f n = true ↔ Beg R f n := by
  unfold begB
  simp only [Bool.and_eq_true, decide_eq_true_eq]
  constructor
  · rintro ⟨⟨h1, h2, h3⟩, h4⟩
    exact ⟨h1, h2, by omega⟩
  · intro h
    exact ⟨⟨h.gl, h.t, sz_ok hR h.gl⟩, by rw [h.m]; omega⟩
/-- The two boxes. -/
theorem two_box {w : World} {x0 x1 y0 y1 y2 : Value} {t u : TypeId} : ((w.alloc (.cells #[x0, x1] t)).alloc (.cells #[y0, y1, y2] u)).heap[w.heap.size]? = some (.cells #[x0, x1] t) ∧ ((w.alloc (.cells #[x0, x1] t)).alloc (.cells #[y0, y1, y2] u)).heap[w.heap.size + 1]? = some (.cells #[y0, y1, y2] u) := by
  constructor
  · rw [Below.heap_alloc _ _ _ (by simp)]; exact heap_alloc_new _ _
  · have := heap_alloc_new (w.alloc (.cells #[x0, x1] t)) (.cells #[y0, y1, y2] u)
    simpa using this
set_option maxRecDepth 100000 in
set_option maxHeartbeats 1000000 in
theorem begins_any (R : Rl) (va : Option Addr) (vn vc : Nat) (f : Int) (n : Nat) (hn : n ≤ 255) (w : World) (hL : Lies R w.heap.size w) :
    Calls Tryz.prog 103 #[.agg #[.slice R.a R.len R.cap, .int .i64 R.kp], .agg #[.slice va vn vc, .int .i64 f, .int .i64 (n : Int)]] w fun e w' => e = .returned (.bool (begB R f n)) ∧ Below w.heap.size w w' := by
  have hml : R.len ≤ maxLen := hL.1
  unfold maxLen at hml
  by_cases h1 : R.len ≤ n
  · have HB : Hid (begB R f n = false) := by unfold Hid begB; rw [decide_eq_false (by omega)]; rfl
    clear hL
    go_enter Tryz.func103, Tryz.ntmps103
    go_wp2_with fail
    go_ret
    exact ⟨by rw [HB.out]; rfl, ((Below.refl _ _).alloc (Nat.le_refl _) _).alloc (by simp) _⟩
  · have hlt : n < R.len := by omega
    obtain ⟨b, off, ha, hbl, hcs⟩ : ∃ b off, R.a = some ⟨b, off, none⟩ ∧ b < w.heap.size ∧ ∀ i, i < R.len → w.cell? ⟨b, off + i * 2, none⟩ = some (.int .i64 (R.sz i)) ∧ w.cell? ⟨b, off + i * 2 + 1, none⟩ = some (.int .i64 (R.ag i)) := by
      rcases hL.2.2 with h | h
      · omega
      · exact h
    have HB : Hid (begB R f n = ((isT f && isS (R.sz n)) && decide (f - f % R.sz n = f))) := by unfold Hid begB; rw [decide_eq_true hlt]; rfl
    rw [ha]
    have cz := (hcs n hlt).1
    have hbl2 : b ≠ w.heap.size := by omega
    have hbl3 : b ≠ w.heap.size + 1 := by omega
    have HBL : Hid (b < w.heap.size) := hbl
    clear hcs hL ha
    obtain ⟨w2, HW2⟩ := hid_ex ((w.alloc (.cells #[.slice (some ⟨b, off, none⟩) R.len R.cap, .int .i64 R.kp] 24)).alloc (.cells #[.slice va vn vc, .int .i64 f, .int .i64 (n : Int)] 70))
    have HB2 : Hid (Below w.heap.size w w2) := by rw [HW2.out]; exact ((Below.refl _ _).alloc (Nat.le_refl _) _).alloc (by simp) _
    have hx0 := (two_box (w := w) (x0 := .slice (some ⟨b, off, none⟩) R.len R.cap) (x1 := .int .i64 R.kp) (y0 := .slice va vn vc) (y1 := .int .i64 f) (y2 := .int .i64 (n : Int)) (t := 24) (u := 70))
    rw [← HW2.out] at hx0
    have k0 : w2.cell? ⟨w.heap.size, 0, none⟩ = some (.slice (some ⟨b, off, none⟩) R.len R.cap) := by rw [Go.Joins.cell_of_block hx0.1]; rfl
    have k1 : w2.cell? ⟨w.heap.size + 1, 1, none⟩ = some (.int .i64 f) := by rw [Go.Joins.cell_of_block hx0.2]; rfl
    have k2 : w2.cell? ⟨w.heap.size + 1, 2, none⟩ = some (.int .i64 (n : Int)) := by rw [Go.Joins.cell_of_block hx0.2]; rfl
    have k3 : w2.cell? ⟨b, off + n * 2, none⟩ = some (.int .i64 (R.sz n)) := (HB2.out.cell (p := ⟨b, off + n * 2, none⟩) hbl).trans cz
    obtain ⟨s, Hs⟩ := hid_ex (R.sz n)
    rw [← Hs.out] at k3 HB
    clear cz hx0 hbl hbl2 hbl3
    by_cases ht : isT f && isS s
    · have HV : Hid (floorV f s = .tuple #[.int .i64 (f - f % s), .int .i64 0]) := by unfold Hid floorV; rw [if_pos ht, if_pos ht]
      rw [ht, Bool.true_and] at HB
      obtain ⟨fr, Hfr⟩ := hid_ex (f - f % s)
      rw [← Hfr.out] at HV HB
      clear ht Hfr
      go_enter Tryz.func103, Tryz.ntmps103
      go_wp2_with fail
      rw [← HW2.out]
      go_quiet (exact (floor_any f s _).mono (fun e w h => ⟨by rw [h.1, HV.out], _, h.2⟩))
      obtain ⟨w3, HW3⟩ := hid_ex (w2.drewN nq)
      have HB3 : Hid (Below w.heap.size w w3) := by rw [HW3.out]; exact below_drewN HB2.out nq
      have j1 : w3.cell? ⟨w.heap.size + 1, 1, none⟩ = some (.int .i64 f) := by rw [HW3.out]; exact k1
      rw [← HW3.out]
      clear k0 k1 k2 k3 HW3
      go_wp2_with fail
      go_ret
      exact ⟨by rw [HB.out]; congr 2, HB3.out⟩
    · have hf := Bool.not_eq_true _ ▸ ht
      have HV : Hid (floorV f s = .tuple #[.int .i64 0, .int .i64 1]) := by unfold Hid floorV; rw [if_neg ht, if_neg ht]
      rw [hf, Bool.false_and] at HB
      clear ht hf
      go_enter Tryz.func103, Tryz.ntmps103
      go_wp2_with fail
      rw [← HW2.out]
      go_quiet (exact (floor_any f s _).mono (fun e w h => ⟨by rw [h.1, HV.out], _, h.2⟩))
      obtain ⟨w3, HW3⟩ := hid_ex (w2.drewN nq)
      have HB3 : Hid (Below w.heap.size w w3) := by rw [HW3.out]; exact below_drewN HB2.out nq
      rw [← HW3.out]
      clear k0 k1 k2 k3 HW3
      go_wp2_with fail
      go_ret
      exact ⟨by rw [HB.out]; rfl, HB3.out⟩
/-- What fateOf tells. -/
noncomputable def fateV (R : Rl) (wm f : Int) (g : Nat) : Value := .agg #[.int .i64 (flq R wm f g), .int .i64 ((stq R wm f g : Nat) : Int), .bool (goneB R wm f)]
set_option maxRecDepth 100000 in
set_option maxHeartbeats 2000000 in
theorem fateOf_any (R : Rl) (hR : RightP R) (wm : Int) (hwm : isT wm = true) (va : Option Addr) (vn vc : Nat) (f : Int) (g : Nat) (ht : isT f = true) (hg : g < R.len) (w : World) (hL : Lies R w.heap.size w) :
    Calls Tryz.prog 81 #[.agg #[.slice R.a R.len R.cap, .int .i64 R.kp], .int .i64 wm, .agg #[.slice va vn vc, .int .i64 f, .int .i64 (g : Int)]] w fun e w' => e = .returned (fateV R wm f g) ∧ Below w.heap.size w w' := by
  have h4 := hR.2.1
  have hml : R.len ≤ maxLen := hL.1
  unfold maxLen at hml
  obtain ⟨b, off, ha, hbl, hcs⟩ : ∃ b off, R.a = some ⟨b, off, none⟩ ∧ b < w.heap.size ∧ ∀ i, i < R.len → w.cell? ⟨b, off + i * 2, none⟩ = some (.int .i64 (R.sz i)) ∧ w.cell? ⟨b, off + i * 2 + 1, none⟩ = some (.int .i64 (R.ag i)) := by
    rcases hL.2.2 with h | h
    · omega
    · exact h
  have HK : Hid (fE R f wm = 0 → IsStep R f wm (stp R f wm)) := fun _ => stp_is hR f wm
  have hF := fE_of hR ht hwm
  have HS : Hid (∀ W, Lies R W.heap.size W → Calls Tryz.prog 101 #[.agg #[.slice (some ⟨b, off, none⟩) R.len R.cap, .int .i64 R.kp], .int .i64 f, .int .i64 wm] W fun e w' => e = .returned (.tuple #[.int .i64 ((stp R f wm : Nat) : Int), .int .i64 0]) ∧ Below W.heap.size W w') := by
    intro W hW
    have := step_any R f wm _ HK.out W hW
    unfold stA at this
    rw [if_pos hF, hF, ha] at this
    exact this
  have HE : Hid (∀ W, Lies R W.heap.size W → Calls Tryz.prog 106 #[.agg #[.slice (some ⟨b, off, none⟩) R.len R.cap, .int .i64 R.kp], .int .i64 f, .int .i64 wm] W fun e w' => e = .returned (.tuple #[.bool (goneB R wm f), .int .i64 0]) ∧ Below W.heap.size W w') := by
    intro W hW
    have := expired_any R f wm W hW
    unfold exA at this
    rw [if_pos hF, hF, ha] at this
    exact this
  have hsl : stp R f wm < R.len := (stp_is hR f wm).1
  have hql : stq R wm f g < R.len := stq_lt hR hg
  have HVL : Hid (floorV f (R.sz (stq R wm f g)) = .tuple #[.int .i64 (flq R wm f g), .int .i64 0]) := by
    have h2 : isT f && isS (R.sz (stq R wm f g)) := by rw [ht, sz_ok hR hql]; rfl
    unfold Hid floorV; rw [if_pos h2, if_pos h2]; rfl
  have HQ : Hid (((stq R wm f g : Nat) : Int) = max ((stp R f wm : Nat) : Int) (g : Int)) := by unfold Hid stq; omega
  unfold fateV
  obtain ⟨gn, Hgn⟩ := hid_ex (goneB R wm f)
  rw [← Hgn.out] at HE ⊢
  have HL : Hid (Lies R w.heap.size w) := hL
  rw [ha]
  have cz := (hcs _ hql).1
  clear hcs hL ha hF HK Hgn
  obtain ⟨fr, Hfr⟩ := hid_ex (flq R wm f g)
  rw [← Hfr.out] at HVL ⊢
  obtain ⟨q, Hq⟩ := hid_ex (stq R wm f g)
  rw [← Hq.out] at HVL HQ cz hql ⊢
  obtain ⟨p, Hp⟩ := hid_ex (stp R f wm)
  rw [← Hp.out] at HS HQ hsl
  obtain ⟨s, Hs⟩ := hid_ex (R.sz q)
  rw [← Hs.out] at HVL cz
  clear Hfr Hq Hp Hs
  obtain ⟨w2, HW2⟩ := hid_ex (((w.alloc (.cells #[.slice (some ⟨b, off, none⟩) R.len R.cap, .int .i64 R.kp] 24)).alloc (.cells #[.slice va vn vc, .int .i64 f, .int .i64 (g : Int)] 70)).alloc (.cells #[.int .i64 0, .int .i64 0, .bool false] 135))
  have HB2 : Hid (Below w.heap.size w w2) := by rw [HW2.out]; exact (((Below.refl _ _).alloc (Nat.le_refl _) _).alloc (by simp) _).alloc (by simp; omega) _
  have hx0 := (two_box (w := w) (x0 := .slice (some ⟨b, off, none⟩) R.len R.cap) (x1 := .int .i64 R.kp) (y0 := .slice va vn vc) (y1 := .int .i64 f) (y2 := .int .i64 (g : Int)) (t := 24) (u := 70))
  have hx2 : w2.heap[w.heap.size]? = some (.cells #[.slice (some ⟨b, off, none⟩) R.len R.cap, .int .i64 R.kp] 24) := by rw [HW2.out, Below.heap_alloc _ _ _ (by simp; omega)]; exact hx0.1
  have hx3 : w2.heap[w.heap.size + 1]? = some (.cells #[.slice va vn vc, .int .i64 f, .int .i64 (g : Int)] 70) := by rw [HW2.out, Below.heap_alloc _ _ _ (by simp)]; exact hx0.2
  have hx4 : w2.heap[w.heap.size + 1 + 1]? = some (.cells #[.int .i64 0, .int .i64 0, .bool false] 135) := by rw [HW2.out]; have := heap_alloc_new ((w.alloc (.cells #[.slice (some ⟨b, off, none⟩) R.len R.cap, .int .i64 R.kp] 24)).alloc (.cells #[.slice va vn vc, .int .i64 f, .int .i64 (g : Int)] 70)) (.cells #[.int .i64 0, .int .i64 0, .bool false] 135); simpa using this
  have HCZ : Hid (w2.cell? ⟨b, off + q * 2, none⟩ = some (.int .i64 s)) := (HB2.out.cell (p := ⟨b, off + q * 2, none⟩) hbl).trans cz
  have HBX : Hid (∀ W, Below w2.heap.size w2 W → W.cell? ⟨w.heap.size, 0, none⟩ = some (.slice (some ⟨b, off, none⟩) R.len R.cap) ∧ W.cell? ⟨w.heap.size, 1, none⟩ = some (.int .i64 R.kp) ∧ W.cell? ⟨w.heap.size + 1, 1, none⟩ = some (.int .i64 f) ∧ W.cell? ⟨w.heap.size + 1, 2, none⟩ = some (.int .i64 (g : Int)) ∧ W.cell? ⟨b, off + q * 2, none⟩ = some (.int .i64 s) ∧ Lies R W.heap.size W ∧ Below w.heap.size w W ∧ W.heap[w.heap.size + 1 + 1]? = some (.cells #[.int .i64 0, .int .i64 0, .bool false] 135)) := by
    intro W hW
    have l2 := (Array.getElem?_eq_some_iff.1 hx2).1
    have l3 := (Array.getElem?_eq_some_iff.1 hx3).1
    have l4 := (Array.getElem?_eq_some_iff.1 hx4).1
    have y2 := (hW.block _ l2).trans hx2
    have y3 := (hW.block _ l3).trans hx3
    refine ⟨by rw [Go.Joins.cell_of_block y2]; rfl, by rw [Go.Joins.cell_of_block y2]; rfl, by rw [Go.Joins.cell_of_block y3]; rfl, by rw [Go.Joins.cell_of_block y3]; rfl, (hW.cell (p := ⟨b, _, none⟩) (by show b < w2.heap.size; omega)).trans HCZ.out, HL.out.at (HB2.out.trans (hW.mono (by omega))), HB2.out.trans (hW.mono (by omega)), (hW.block _ l4).trans hx4⟩
  clear hx0 hx2 hx3 hx4 cz HCZ HL
  obtain ⟨k0, k1, k2, k3, _, hl2, _, _⟩ := HBX.out w2 (Below.refl _ _)
  go_enter Tryz.func81, Tryz.ntmps81
  go_wp2_with fail
  rw [← HW2.out]
  refine (HS.out _ hl2).mono ?_
  rintro e w3 ⟨rfl, hb3⟩
  obtain ⟨j0, j1, j2, j3, j4, hl3, _, _⟩ := HBX.out w3 hb3
  have HW3 : Hid (Below w2.heap.size w2 w3) := hb3
  clear k0 k1 k2 k3 hb3 hl2
  have hcase : (p < g ∧ q = g) ∨ (¬ p < g ∧ q = p) := by have := HQ.out; omega
  clear HQ
  rcases hcase with ⟨hpg, rfl⟩ | ⟨hpg, rfl⟩
  all_goals
    go_wp2_with fail
    go_quiet (exact (floor_any f s _).mono (fun e w h => ⟨by rw [h.1, HVL.out], _, h.2⟩))
    obtain ⟨w4, HW4⟩ := hid_ex (w3.drewN nq)
    have hb4 : Below w2.heap.size w2 w4 := by rw [HW4.out]; exact below_drewN HW3.out nq
    clear j0 j1 j2 j3 j4 hl3
    obtain ⟨k0, k1, k2, k3, _, hl4, _, _⟩ := HBX.out w4 hb4
    rw [← HW4.out]
    have HB4 : Hid _ := hb4
    clear HW4 hb4
    go_wp2_with fail
    refine (HE.out _ hl4).mono ?_
    rintro e w5 ⟨rfl, hb5⟩
    have hb5' := HB4.out.trans (hb5.mono HB4.out.size)
    obtain ⟨_, _, _, _, _, _, hb6, hx6⟩ := HBX.out w5 hb5'
    have HB6 : Hid _ := hb6
    have f0 := (cell_row hx6 0 (by simp)).2
    have f1 := (cell_row hx6 1 (by simp)).2
    have f2 := (cell_row hx6 2 (by simp)).2
    have g0 := (cell_row hx6 0 (by simp)).1
    have g1 := (cell_row hx6 1 (by simp)).1
    have g2 := (cell_row hx6 2 (by simp)).1
    clear k0 k1 k2 k3 hl4 hb5 hb5' hb6 hx6 HBX HS HE HW3 HB4
    go_wp2_with fail
    refine bodyPost_ret (v := .agg #[.int .i64 fr, .int .i64 (q : Int), .bool gn]) (by simp [results, Tryz.results81, go_sem, g0, g1, g2]) rfl ⟨rfl, ?_⟩
    exact ((HB6.out.setCell (by simp; omega) _).setCell (by simp; omega) _).setCell (by simp; omega) _
end Go.Proofs.YtoenijflijfogaaGreat

/- The contract of All. -/
namespace Go.Proofs.YtoenijflijfogaaGreat
open Go.RowKit

end Go.Proofs.YtoenijflijfogaaGreat

/- The steps of the loop of All, in memory. -/
namespace Go.Proofs.YtoenijflijfogaaGreat
open Go.RowKit

theorem news7 (w : World) (vs : List Value) {t : TypeId} : ∀ j u, vs[j]? = some u → (w.alloc (.cells vs.toArray t)).cell? ((⟨w.heap.size, 0, none⟩ : Addr).add j) = some u := by
  intro j u hj
  have ea : (⟨w.heap.size, 0, none⟩ : Addr).add j = ⟨w.heap.size, j, none⟩ := by simp [Addr.add]; omega
  rw [ea, Go.Joins.cell_of_block (heap_alloc_new _ _)]
  simpa using hj
theorem one7 (x : Ev) (h : x.kv.oneCell' = true) : ∀ u ∈ c7 x, u.oneCell' = true := by
  intro u hu
  simp only [c7, List.mem_cons, List.not_mem_nil, or_false] at hu
  rcases hu with rfl | rfl | rfl | rfl | rfl | rfl | rfl
  · exact h
  all_goals rfl
theorem row_form {w : World} {base sz n : Nat} {e : TypeId} {v : Value} {xs : List Value} (h : w.ownsRow base e sz v n xs) : ∃ a cap, v = .slice a n cap := by
  rcases h.2 with ⟨h1, h2⟩ | ⟨g, cap, cur, hv, _⟩
  · exact ⟨none, 0, by rw [h1, h2]⟩
  · exact ⟨_, cap, hv⟩
end Go.Proofs.YtoenijflijfogaaGreat
