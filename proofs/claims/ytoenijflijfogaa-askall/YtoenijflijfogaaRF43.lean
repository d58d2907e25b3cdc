/- CL0, joined. -/
import Derived.Test.YtoenijflijfogaaRF39
import Derived.Test.YtoenijflijfogaaRF42
/- Layer 17: AskAll, plainly. -/
namespace Go.Proofs.Ytoenijflijfogaa
open Go.RowKit

/-- What is known of rows together, as a loop has it. -/
def sumB (l : List Rw) : Ag := l.foldl (fun a x => mrg a x.a) agZ
theorem sumB_snoc (l : List Rw) (x : Rw) : sumB (l ++ [x]) = mrg (sumB l) x.a := by unfold sumB; rw [List.foldl_append]; rfl
theorem sumB_gd {l : List Rw} (h : ∀ x ∈ l, Gd x.a) : Gd (sumB l) := by
  have : ∀ (l : List Rw) (z : Ag), Gd z → (∀ x ∈ l, Gd x.a) → Gd (l.foldl (fun a x => mrg a x.a) z) := by
    intro l
    induction l with
    | nil => intro z hz _; exact hz
    | cons x l ih => intro z hz h; exact ih _ (hz.mrg (h x (List.mem_cons_self ..))) fun y hy => h y (List.mem_cons_of_mem _ hy)
  exact this l agZ Gd.zero h
theorem mrg_z0 (a : Ag) : mrg agZ a = a := by unfold mrg; rw [if_pos (show agZ.c = 0 from rfl)]
theorem scan_in (f t : Int) (l : List Rw) : scanF [] f t l = l.filter (inR f t) := by
  unfold scanF
  refine List.filter_congr fun x _ => ?_
  unfold inR
  simp
/-- Rollup over the rows of its range. -/
def rolF (m : Nat) (f t : Int) (A : List Rw) : List Rw := A.foldl (fun L x => insR (pR m f t x) L) []
theorem rol_scan (m : Nat) (f t : Int) (l : List Rw) : rollF m f t l = rolF m f t (scanF [] f t l) := by rw [scan_in]; rfl
theorem rolF_snoc (m : Nat) (f t : Int) (A : List Rw) (x : Rw) : rolF m f t (A ++ [x]) = insR (pR m f t x) (rolF m f t A) := by unfold rolF; rw [List.foldl_append]; rfl
/-- The rows of a part. -/
def prt (m : Nat) (D : List ByteArray) (x : Rw) : Bool := decide (pt x.D m = D)
theorem insR_has {x : Rw} : ∀ {L : List Rw}, SrtR L → ∀ {y : Rw}, y ∈ insR x L → (y.D = x.D ∧ (y.a = x.a ∧ (∀ z ∈ L, z.D ≠ x.D) ∨ ∃ z ∈ L, z.D = x.D ∧ y.a = mrg z.a x.a)) ∨ (y.D ≠ x.D ∧ y ∈ L)
  | [], _, y, h => by
    unfold insR at h
    simp at h
    subst h
    exact .inl ⟨rfl, .inl ⟨rfl, fun z hz => by cases hz⟩⟩
  | z :: L, hs, y, h => by
    obtain ⟨h1, h2⟩ := List.pairwise_cons.1 hs
    unfold insR at h
    split at h
    · rename_i hl
      have hne : ∀ u ∈ z :: L, u.D ≠ x.D := fun u hu e => by
        rcases List.mem_cons.1 hu with rfl | hu
        · rw [e] at hl; exact lj_irr _ hl
        · have := lj_tr hl (h1 u hu); rw [e] at this; exact lj_irr _ this
      rcases List.mem_cons.1 h with rfl | h
      · exact .inl ⟨rfl, .inl ⟨rfl, hne⟩⟩
      · exact .inr ⟨hne y h, h⟩
    · split at h
      · rename_i _ he
        rcases List.mem_cons.1 h with rfl | h
        · exact .inl ⟨rfl, .inr ⟨z, List.mem_cons_self .., he.symm, rfl⟩⟩
        · refine .inr ⟨fun e => ?_, List.mem_cons_of_mem _ h⟩
          have := h1 y h
          rw [e, he] at this
          exact lj_irr _ this
      · rename_i hn1 hn2
        have hzx : lj z.D x.D := by
          rcases lj_tri x.D z.D with q | q | q
          · exact absurd q hn1
          · exact absurd q hn2
          · exact q
        rcases List.mem_cons.1 h with rfl | h
        · exact .inr ⟨fun e => hn2 e.symm, List.mem_cons_self ..⟩
        · rcases insR_has h2 h with ⟨e, q⟩ | ⟨e, q⟩
          · refine .inl ⟨e, ?_⟩
            rcases q with ⟨q1, q2⟩ | ⟨u, hu, q1, q2⟩
            · refine .inl ⟨q1, fun u hu e2 => ?_⟩
              rcases List.mem_cons.1 hu with rfl | hu
              · exact hn2 e2.symm
              · exact q2 u hu e2
            · exact .inr ⟨u, List.mem_cons_of_mem _ hu, q1, q2⟩
          · exact .inr ⟨e, List.mem_cons_of_mem _ q⟩
theorem rolF_srt (m : Nat) (f t : Int) (A : List Rw) : SrtR (rolF m f t A) := by
  unfold rolF
  have : ∀ (l L : List Rw), SrtR L → SrtR (l.foldl (fun L x => insR (pR m f t x) L) L) := by
    intro l
    induction l with
    | nil => intro L h; exact h
    | cons x l ih => intro L h; exact ih _ (insR_srt h)
  exact this _ _ List.Pairwise.nil
theorem insR_in (x : Rw) : ∀ L : List Rw, (∃ y ∈ insR x L, y.D = x.D) ∧ ∀ z ∈ L, ∃ y ∈ insR x L, y.D = z.D
  | [] => ⟨⟨x, by simp [insR], rfl⟩, fun z hz => by cases hz⟩
  | z :: L => by
    obtain ⟨i1, i2⟩ := insR_in x L
    unfold insR
    split
    · exact ⟨⟨x, List.mem_cons_self .., rfl⟩, fun u hu => ⟨u, List.mem_cons_of_mem _ hu, rfl⟩⟩
    · split
      · rename_i _ he
        refine ⟨⟨_, List.mem_cons_self .., rfl⟩, fun u hu => ?_⟩
        rcases List.mem_cons.1 hu with rfl | hu
        · exact ⟨_, List.mem_cons_self .., he⟩
        · exact ⟨u, List.mem_cons_of_mem _ hu, rfl⟩
      · obtain ⟨y, hy, e⟩ := i1
        refine ⟨⟨y, List.mem_cons_of_mem _ hy, e⟩, fun u hu => ?_⟩
        rcases List.mem_cons.1 hu with rfl | hu
        · exact ⟨u, List.mem_cons_self .., rfl⟩
        · obtain ⟨y, hy, e⟩ := i2 u hu
          exact ⟨y, List.mem_cons_of_mem _ hy, e⟩
/-- Each row of a Rollup is what is known of the rows with its part; and each row's part is there. -/
theorem rolF_part (m : Nat) (f t : Int) : ∀ (n : Nat) (A : List Rw), A.length = n → (∀ y ∈ rolF m f t A, y.a = sumB (A.filter (prt m y.D)) ∧ ∃ x ∈ A, y.D = pt x.D m) ∧ ∀ x ∈ A, ∃ y ∈ rolF m f t A, y.D = pt x.D m
  | 0, A, h => by
    have : A = [] := List.length_eq_zero_iff.1 h
    subst this
    exact ⟨fun y hy => (by cases hy), fun x hx => (by cases hx)⟩
  | n + 1, A, h => by
    obtain ⟨B, x, rfl⟩ : ∃ B x, A = B ++ [x] := ⟨A.dropLast, A.getLast (by intro e; rw [e] at h; simp at h), (List.dropLast_concat_getLast _).symm⟩
    have hb : B.length = n := by simpa using h
    obtain ⟨i1, i2⟩ := rolF_part m f t n B hb
    have hs := rolF_srt m f t B
    rw [rolF_snoc]
    refine ⟨fun y hy => ?_, fun u hu => ?_⟩
    · have hfil : (B ++ [x]).filter (prt m y.D) = B.filter (prt m y.D) ++ (if pt x.D m = y.D then [x] else []) := by
        rw [List.filter_append, List.filter_cons, List.filter_nil]
        unfold prt
        by_cases e : pt x.D m = y.D
        · rw [if_pos (decide_eq_true e), if_pos e]
        · rw [if_neg (by simpa using e), if_neg e]
      rcases insR_has hs hy with ⟨e, q⟩ | ⟨e, q⟩
      · have e' : y.D = pt x.D m := e
        refine ⟨?_, x, by simp, e'⟩
        rw [hfil, if_pos e'.symm, sumB_snoc]
        rcases q with ⟨q1, q2⟩ | ⟨z, hz, q1, q2⟩
        · have hnil : B.filter (prt m y.D) = [] := List.filter_eq_nil_iff.2 fun u hu hp => by
            unfold prt at hp
            simp only [decide_eq_true_eq] at hp
            obtain ⟨v, hv, ev⟩ := i2 u hu
            exact q2 v hv (ev.trans (hp.trans e'))
          rw [hnil, q1]
          exact (mrg_z0 _).symm
        · have q1' : z.D = pt x.D m := q1
          rw [q2, (i1 z hz).1, q1', ← e']
          rfl
      · obtain ⟨j1, u, hu, j2⟩ := i1 y q
        have hne : ¬ pt x.D m = y.D := fun e2 => e (by rw [← e2]; rfl)
        refine ⟨by rw [hfil, if_neg hne, List.append_nil]; exact j1, u, List.mem_append_left _ hu, j2⟩
    · obtain ⟨k1, k2⟩ := insR_in (pR m f t x) (rolF m f t B)
      rcases List.mem_append.1 hu with hu | hu
      · obtain ⟨y, hy, e⟩ := i2 u hu
        obtain ⟨z, hz, e2⟩ := k2 y hy
        exact ⟨z, hz, e2.trans e⟩
      · obtain rfl : u = x := by simpa using hu
        exact k1
theorem pt_zero : ∀ D : List ByteArray, pt D 0 = []
  | [] => rfl
  | s :: L => by rw [pt]; simp [pt_zero L]
theorem pt_0 (D : List ByteArray) : pt D 0 = [] := pt_zero D
/-- A Rollup to no dimensions. -/
theorem rol_none (f t : Int) (A : List Rw) : (A = [] ∧ rolF 0 f t A = []) ∨ (A ≠ [] ∧ ∃ y, rolF 0 f t A = [y] ∧ y.D = [] ∧ y.a = sumB A) := by
  obtain ⟨h1, h2⟩ := rolF_part 0 f t A.length A rfl
  have hs := rolF_srt 0 f t A
  have hD : ∀ y ∈ rolF 0 f t A, y.D = [] := fun y hy => by
    obtain ⟨_, x, _, e⟩ := h1 y hy
    rw [e, pt_0]
  by_cases hA : A = []
  · subst hA; exact .inl ⟨rfl, rfl⟩
  · refine .inr ⟨hA, ?_⟩
    obtain ⟨x, hx⟩ := List.exists_mem_of_ne_nil A hA
    obtain ⟨y, hy, _⟩ := h2 x hx
    match hr : rolF 0 f t A, hs, hD with
    | [], _, _ => rw [hr] at hy; cases hy
    | [z], _, hD =>
      have hz : z ∈ rolF 0 f t A := by rw [hr]; simp
      refine ⟨z, rfl, hD z (by simp), ?_⟩
      rw [(h1 z hz).1]
      have : A.filter (prt 0 z.D) = A := List.filter_eq_self.2 fun u _ => by unfold prt; rw [pt_0, hD z (by simp)]; simp
      rw [this]
    | z :: u :: L, hs, hD =>
      obtain ⟨q, _⟩ := List.pairwise_cons.1 hs
      have := q u (by simp)
      rw [hD z (by simp), hD u (by simp)] at this
      exact absurd this (lj_irr _)
/-- Putting the rows of a Rollup together. -/
def toE (y : Rw) : En := (jn y.D, y.a)
theorem lj_ltK (a b : List ByteArray) : lj a b ↔ ltK (jn a) (jn b) := by rw [lj_iff, less_iff]; exact Iff.rfl
theorem ins_toE {x : Rw} (hx : Gd x.a) : ∀ {L : List Rw}, (∀ y ∈ L, Gd y.a) → (insR x L).map toE = ins (toE x) (L.map toE)
  | [], _ => rfl
  | y :: L, h => by
    have ih := ins_toE hx (L := L) fun z hz => h z (List.mem_cons_of_mem _ hz)
    have hy := h y (List.mem_cons_self ..)
    unfold insR
    rw [List.map_cons]
    by_cases h1 : lj x.D y.D
    · rw [if_pos h1, ins_lt (x := toE x) (y := toE y) ((lj_ltK _ _).1 h1)]; rfl
    · rw [if_neg h1]
      by_cases h2 : x.D = y.D
      · rw [if_pos h2, ins_eq (x := toE x) (y := toE y) (by unfold toE; rw [h2]), List.map_cons]
        unfold toE
        dsimp only
        rw [gd_comm hy hx, h2]
      · have h3 : lj y.D x.D := by
          rcases lj_tri x.D y.D with q | q | q
          · exact absurd q h1
          · exact absurd q h2
          · exact q
        rw [if_neg h2, ins_gt (x := toE x) (y := toE y) ((lj_ltK _ _).1 h3), List.map_cons, ih]
theorem insR_gd {x : Rw} (hx : Gd x.a) {L : List Rw} (h : ∀ y ∈ L, Gd y.a) : ∀ y ∈ insR x L, Gd y.a := by
  induction L with
  | nil => intro y hy; simp [insR] at hy; rw [hy]; exact hx
  | cons z L ih =>
    intro y hy
    have hz := h z (List.mem_cons_self ..)
    have hL : ∀ y ∈ L, Gd y.a := fun y hy => h y (List.mem_cons_of_mem _ hy)
    unfold insR at hy
    split at hy
    · rcases List.mem_cons.1 hy with rfl | hy
      · exact hx
      · exact h y hy
    · split at hy
      · rcases List.mem_cons.1 hy with rfl | hy
        · exact hz.mrg hx
        · exact hL y hy
      · rcases List.mem_cons.1 hy with rfl | hy
        · exact hz
        · exact ih hL y hy
theorem rolF_sum (m : Nat) (f t : Int) : ∀ (n : Nat) (A : List Rw), A.length = n → (∀ x ∈ A, Gd x.a) → (∀ y ∈ rolF m f t A, Gd y.a) ∧ smr ((rolF m f t A).map toE) = sumB A
  | 0, A, h, _ => by
    have : A = [] := List.length_eq_zero_iff.1 h
    subst this
    exact ⟨fun y hy => (by cases hy), rfl⟩
  | n + 1, A, h, hg => by
    obtain ⟨B, x, rfl⟩ : ∃ B x, A = B ++ [x] := ⟨A.dropLast, A.getLast (by intro e; rw [e] at h; simp at h), (List.dropLast_concat_getLast _).symm⟩
    have hb : B.length = n := by simpa using h
    have hgB : ∀ x ∈ B, Gd x.a := fun y hy => hg y (List.mem_append_left _ hy)
    have hgx : Gd x.a := hg x (by simp)
    obtain ⟨i1, i2⟩ := rolF_sum m f t n B hb hgB
    have hpx : Gd (pR m f t x).a := hgx
    rw [rolF_snoc]
    refine ⟨insR_gd hpx i1, ?_⟩
    have hE : GdE ((rolF m f t B).map toE) := fun e he => by
      obtain ⟨y, hy, rfl⟩ := List.mem_map.1 he
      exact i1 y hy
    rw [ins_toE hpx i1, smr_ins (x := toE (pR m f t x)) hpx hE, i2, sumB_snoc]
    exact gd_comm hpx (sumB_gd hgB)
theorem rol_parts (m : Nat) (f t : Int) {A : List Rw} (hg : ∀ x ∈ A, Gd x.a) : sumB (rolF m f t A) = sumB A := by
  obtain ⟨h1, h2⟩ := rolF_sum m f t A.length A rfl hg
  have hE : GdE ((rolF m f t A).map toE) := fun e he => by
    obtain ⟨y, hy, rfl⟩ := List.mem_map.1 he
    exact h1 y hy
  have h3 := sml_smr (z := agZ) Gd.zero hE
  have h4 : sml agZ ((rolF m f t A).map toE) = sumB (rolF m f t A) := by
    unfold sml sumB
    rw [List.foldl_map]
    rfl
  rw [← h4, h3, mrg_z0, h2]
end Go.Proofs.Ytoenijflijfogaa
