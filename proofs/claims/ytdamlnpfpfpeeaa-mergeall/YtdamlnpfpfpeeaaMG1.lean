/- Rows of entries, put together: what comes, as lists. -/
import Derived.Test.YtdamlnpfpfpeeaaMG0
import Derived.Test.YtdamlnpfpfpeeaaA2
namespace Go.Proofs.Ytdamlnpfpfpeeaa

abbrev En := Ks × Ag
def agZ : Ag := ⟨0, false, 0, 0, 0⟩
def keysE (E : List En) : List Ks := E.map Prod.fst
/-- A key and the place of its row. -/
abbrev Kr := Ks × Nat
def ltT (x y : Kr) : Prop := ltK x.1 y.1 ∨ (x.1 = y.1 ∧ x.2 < y.2)
instance (x y : Kr) : Decidable (ltT x y) := inferInstanceAs (Decidable (_ ∨ _))
theorem ltT_irrefl (x : Kr) : ¬ ltT x x := by
  rintro (h | ⟨_, h⟩)
  · exact ltK_irrefl _ h
  · exact Nat.lt_irrefl _ h
theorem ltT_trans {x y z : Kr} (h1 : ltT x y) (h2 : ltT y z) : ltT x z := by
  rcases h1 with h1 | ⟨h1, h1'⟩
  · rcases h2 with h2 | ⟨h2, _⟩
    · exact .inl (ltK_trans h1 h2)
    · exact .inl (h2 ▸ h1)
  · rcases h2 with h2 | ⟨h2, h2'⟩
    · exact .inl (h1 ▸ h2)
    · exact .inr ⟨h1.trans h2, Nat.lt_trans h1' h2'⟩
theorem ltT_asymm {x y : Kr} (h : ltT x y) : ¬ ltT y x := fun h2 => ltT_irrefl _ (ltT_trans h h2)
theorem ltT_tri (x y : Kr) : ltT x y ∨ x = y ∨ ltT y x := by
  obtain ⟨a, m⟩ := x
  obtain ⟨b, n⟩ := y
  rcases ltK_tri a b with h | h | h
  · exact .inl (.inl h)
  · subst h
    rcases Nat.lt_trichotomy m n with h | h | h
    · exact .inl (.inr ⟨rfl, h⟩)
    · subst h; exact .inr (.inl rfl)
    · exact .inr (.inr (.inr ⟨rfl, h⟩))
  · exact .inr (.inr (.inl h))
theorem not_ltT {x y : Kr} : ¬ ltT x y ↔ x = y ∨ ltT y x := by
  constructor
  · intro h
    rcases ltT_tri x y with h1 | h1 | h1
    · exact absurd h1 h
    · exact .inl h1
    · exact .inr h1
  · rintro (rfl | h)
    · exact ltT_irrefl _
    · exact ltT_asymm h
theorem nltT_trans {x y c : Kr} (h1 : ¬ ltT y x) (h2 : ¬ ltT c y) : ¬ ltT c x := by
  rw [not_ltT] at *
  rcases h1 with rfl | h1
  · exact h2
  · rcases h2 with rfl | h2
    · exact .inr h1
    · exact .inr (ltT_trans h1 h2)
/-- An entry, and whose it is. -/
abbrev Tg := Kr × Ag
def ltG (x y : Tg) : Prop := ltT x.1 y.1
/-- What is left of a row, and its place. -/
abbrev Pa := List En × Nat
def hdT (p : Pa) : Kr := ((p.1.head?.map Prod.fst).getD [], p.2)
def ltP (p q : Pa) : Prop := ltT (hdT p) (hdT q)
def tagP (p : Pa) : List Tg := p.1.map fun e => ((e.1, p.2), e.2)
def tags (P : List Pa) : List Tg := P.flatMap tagP
structure GoodP (P : List Pa) : Prop where
  ne : ∀ p ∈ P, p.1 ≠ []
  so : ∀ p ∈ P, (keysE p.1).Pairwise ltK
  nd : (P.map Prod.snd).Nodup
theorem tags_perm {P Q : List Pa} (h : P.Perm Q) : (tags P).Perm (tags Q) := h.flatMap_right _
theorem GoodP.perm {P Q : List Pa} (h : GoodP P) (hp : Q.Perm P) : GoodP Q :=
  ⟨fun p hq => h.ne p (hp.mem_iff.1 hq), fun p hq => h.so p (hp.mem_iff.1 hq), (hp.map Prod.snd).nodup_iff.2 h.nd⟩
/-- Behind the least one stand all others. -/
theorem tags_rest {p : Pa} {P : List Pa} {e : En} {es : List En} (hg : GoodP (p :: P)) (hp : p.1 = e :: es) (hmin : ∀ q ∈ P, ¬ ltP q p) : ∀ t ∈ tags ((es, p.2) :: P), ltT (e.1, p.2) t.1 := by
  intro t ht
  obtain ⟨q, hq, ht⟩ := List.mem_flatMap.1 ht
  unfold tagP at ht
  obtain ⟨x, hx, rfl⟩ := List.mem_map.1 ht
  rcases List.mem_cons.1 hq with rfl | hq
  · have hs := hg.so p (List.mem_cons_self ..)
    rw [hp] at hs
    simp only [keysE, List.map_cons, List.pairwise_cons] at hs
    exact .inl (hs.1 x.1 (List.mem_map.2 ⟨x, hx, rfl⟩))
  · have hne := hg.ne q (List.mem_cons_of_mem _ hq)
    have hs := hg.so q (List.mem_cons_of_mem _ hq)
    have hm := hmin q hq
    obtain ⟨ys, n⟩ := q
    match ys, hne with
    | y :: ys, _ =>
      have h1 : hdT (y :: ys, n) = (y.1, n) := rfl
      have h2 : hdT p = (e.1, p.2) := by unfold hdT; rw [hp]; rfl
      unfold ltP at hm
      rw [h1, h2] at hm
      have hrow : p.2 ≠ n := by
        have hn := hg.nd
        simp only [List.map_cons, List.nodup_cons] at hn
        intro h
        exact hn.1 (h ▸ List.mem_map.2 ⟨_, hq, rfl⟩)
      have h3 : ltT (e.1, p.2) (y.1, n) := by
        rcases not_ltT.1 hm with h | h
        · exact absurd (congrArg Prod.snd h).symm hrow
        · exact h
      rcases List.mem_cons.1 hx with rfl | hx
      · exact h3
      · simp only [keysE, List.map_cons, List.pairwise_cons] at hs
        exact ltT_trans h3 (.inl (hs.1 x.1 (List.mem_map.2 ⟨x, hx, rfl⟩)))
def leG (x y : Tg) : Bool := decide (¬ ltT y.1 x.1)
def srtG (l : List Tg) : List Tg := l.mergeSort leG
theorem srtG_perm (l : List Tg) : (srtG l).Perm l := List.mergeSort_perm l leG
theorem leG_trans (a b c : Tg) (h1 : leG a b = true) (h2 : leG b c = true) : leG a c = true := by
  simp only [leG, decide_eq_true_eq] at *
  exact nltT_trans h1 h2
theorem leG_total (a b : Tg) : (leG a b || leG b a) = true := by
  simp only [leG, Bool.or_eq_true, decide_eq_true_eq]
  by_cases h : ltT b.1 a.1
  · exact .inr (ltT_asymm h)
  · exact .inl h
/-- No two are of one key and one row. -/
def dist (l : List Tg) : Prop := (l.map Prod.fst).Nodup
theorem dist.perm {l m : List Tg} (h : dist l) (hp : m.Perm l) : dist m := (hp.map Prod.fst).nodup_iff.2 h
theorem dist_pw : ∀ {l : List Tg}, l.Pairwise (fun a b => leG a b = true) → dist l → l.Pairwise ltG
  | [], _, _ => .nil
  | x :: l, h, hd => by
    rw [List.pairwise_cons] at h ⊢
    unfold dist at hd
    rw [List.map_cons, List.nodup_cons] at hd
    refine ⟨fun y hy => ?_, dist_pw h.2 hd.2⟩
    have h1 := h.1 y hy
    simp only [leG, decide_eq_true_eq] at h1
    rcases not_ltT.1 h1 with e | e
    · exact absurd (e ▸ List.mem_map.2 ⟨y, hy, rfl⟩) hd.1
    · exact e
theorem srtG_pw {l : List Tg} (h : dist l) : (srtG l).Pairwise ltG :=
  dist_pw (List.pairwise_mergeSort leG_trans leG_total l) (h.perm (srtG_perm l))
theorem pw_unique {l m : List Tg} (hl : l.Pairwise ltG) (hm : m.Pairwise ltG) (hp : l.Perm m) : l = m :=
  List.Perm.eq_of_pairwise (fun _ _ _ _ h1 h2 => absurd h2 (ltT_asymm h1)) hl hm hp
theorem pw_dist {l : List Tg} (h : l.Pairwise ltG) : dist l := by
  unfold dist
  rw [List.Nodup, List.pairwise_map]
  refine h.imp ?_
  intro a b hab e
  unfold ltG at hab
  rw [e] at hab
  exact ltT_irrefl _ hab
/-- What is told next. -/
theorem next_tag {p : Pa} {P : List Pa} {e : En} {es : List En} {T : List Tg} (hg : GoodP (p :: P)) (hp : p.1 = e :: es) (hmin : ∀ q ∈ P, ¬ ltP q p) (hT : T.Pairwise ltG) (hperm : T.Perm (tags (p :: P))) :
    ∃ T', T = ((e.1, p.2), e.2) :: T' ∧ T'.Pairwise ltG ∧ T'.Perm (tags ((es, p.2) :: P)) := by
  have h1 : tags (p :: P) = ((e.1, p.2), e.2) :: tags ((es, p.2) :: P) := by
    unfold tags
    rw [List.flatMap_cons, List.flatMap_cons]
    unfold tagP
    rw [hp]; rfl
  have hd : dist (tags (p :: P)) := (pw_dist hT).perm hperm.symm
  rw [h1] at hd
  have hd' : dist (tags ((es, p.2) :: P)) := by
    unfold dist at hd ⊢
    rw [List.map_cons, List.nodup_cons] at hd
    exact hd.2
  refine ⟨srtG (tags ((es, p.2) :: P)), ?_, srtG_pw hd', srtG_perm _⟩
  refine pw_unique hT ?_ (hperm.trans ?_)
  · rw [List.pairwise_cons]
    exact ⟨fun t ht => tags_rest hg hp hmin t ((srtG_perm _).mem_iff.1 ht), srtG_pw hd'⟩
  · rw [h1]; exact (srtG_perm _).symm.cons _
/-- Rows as parts, from a place on. -/
def partsF : Nat → List (List En) → List Pa
  | _, [] => []
  | i, r :: rs => if r = [] then partsF (i + 1) rs else (r, i) :: partsF (i + 1) rs
def tagsF : Nat → List (List En) → List Tg
  | _, [] => []
  | i, r :: rs => tagP (r, i) ++ tagsF (i + 1) rs
theorem tags_parts : ∀ (rs : List (List En)) (i : Nat), tags (partsF i rs) = tagsF i rs
  | [], _ => rfl
  | r :: rs, i => by
    unfold partsF tagsF
    by_cases h : r = []
    · rw [if_pos h, tags_parts rs (i + 1), h]; rfl
    · rw [if_neg h, ← tags_parts rs (i + 1)]; rfl
theorem parts_ge : ∀ (rs : List (List En)) (i : Nat), ∀ p ∈ partsF i rs, i ≤ p.2 ∧ p.1 ∈ rs ∧ p.1 ≠ [] ∧ p.2 < i + rs.length
  | [], _, p, h => by simp [partsF] at h
  | r :: rs, i, p, h => by
    unfold partsF at h
    by_cases e : r = []
    · rw [if_pos e] at h
      obtain ⟨h1, h2, h3, h4⟩ := parts_ge rs (i + 1) p h
      exact ⟨by omega, List.mem_cons_of_mem _ h2, h3, by simp; omega⟩
    · rw [if_neg e] at h
      rcases List.mem_cons.1 h with rfl | h
      · exact ⟨Nat.le_refl _, List.mem_cons_self .., e, by simp⟩
      · obtain ⟨h1, h2, h3, h4⟩ := parts_ge rs (i + 1) p h
        exact ⟨by omega, List.mem_cons_of_mem _ h2, h3, by simp; omega⟩
theorem parts_nd : ∀ (rs : List (List En)) (i : Nat), ((partsF i rs).map Prod.snd).Nodup
  | [], _ => List.nodup_nil
  | r :: rs, i => by
    unfold partsF
    by_cases e : r = []
    · rw [if_pos e]; exact parts_nd rs (i + 1)
    · rw [if_neg e, List.map_cons, List.nodup_cons]
      refine ⟨fun h => ?_, parts_nd rs (i + 1)⟩
      obtain ⟨p, hp, hpe⟩ := List.mem_map.1 h
      have := (parts_ge rs (i + 1) p hp).1
      simp only at hpe
      omega
/-- May entries be a row? -/
def rowF (L : List En) : Int := if ¬ (keysE L).Pairwise ltK then 50 else if L.all (fun x => rightB x.2) then 0 else 3
def rowsF : List (List En) → Int
  | [] => 0
  | r :: rs => if rowF r = 0 then rowsF rs else rowF r
theorem rowF_ok {L : List En} (h : rowF L = 0) : (keysE L).Pairwise ltK ∧ ∀ x ∈ L, rightB x.2 = true := by
  unfold rowF at h
  split at h
  · simp at h
  · rename_i h1
    split at h
    · rename_i h2
      exact ⟨Classical.not_not.1 h1, fun x hx => List.all_eq_true.1 h2 x hx⟩
    · simp at h
theorem rowF_of {L : List En} (h : (keysE L).Pairwise ltK) (h2 : ∀ x ∈ L, rightB x.2 = true) : rowF L = 0 := by
  unfold rowF
  rw [if_neg (fun hn => hn h), if_pos (List.all_eq_true.2 h2)]
theorem rowsF_ok : ∀ {rs : List (List En)}, rowsF rs = 0 ↔ ∀ r ∈ rs, rowF r = 0
  | [] => by simp [rowsF]
  | r :: rs => by
    unfold rowsF
    by_cases h : rowF r = 0
    · rw [if_pos h, rowsF_ok (rs := rs)]; simp [h]
    · rw [if_neg h]; simp [h]
theorem good_parts {rs : List (List En)} (h : rowsF rs = 0) (i : Nat) : GoodP (partsF i rs) :=
  ⟨fun p hp => (parts_ge rs i p hp).2.2.1, fun p hp => (rowF_ok (rowsF_ok.1 h _ (parts_ge rs i p hp).2.1)).1, parts_nd rs i⟩
theorem tagP_dist {r : List En} {i : Nat} (h : (keysE r).Pairwise ltK) : ((tagP (r, i)).map Prod.fst).Nodup := by
  unfold tagP
  rw [List.map_map, List.Nodup, List.pairwise_map]
  unfold keysE at h
  rw [List.pairwise_map] at h
  refine h.imp (fun {a b} hab e => ?_)
  have : a.1 = b.1 := congrArg (fun x : Kr => x.1) e
  exact ltK_ne hab this
theorem tags_ge : ∀ (rs : List (List En)) (i : Nat), ∀ t ∈ tagsF i rs, i ≤ t.1.2
  | [], _, t, h => by simp [tagsF] at h
  | r :: rs, i, t, h => by
    unfold tagsF at h
    rcases List.mem_append.1 h with h | h
    · unfold tagP at h
      obtain ⟨x, _, rfl⟩ := List.mem_map.1 h
      exact Nat.le_refl _
    · have := tags_ge rs (i + 1) t h; omega
theorem tags_dist : ∀ (rs : List (List En)) (i : Nat), (∀ r ∈ rs, (keysE r).Pairwise ltK) → dist (tagsF i rs)
  | [], _, _ => List.nodup_nil
  | r :: rs, i, h => by
    unfold dist tagsF
    rw [List.map_append, List.nodup_append]
    refine ⟨tagP_dist (h r (List.mem_cons_self ..)), tags_dist rs (i + 1) (fun x hx => h x (List.mem_cons_of_mem _ hx)), fun x hx y hy e => ?_⟩
    subst e
    obtain ⟨t, ht, rfl⟩ := List.mem_map.1 hx
    obtain ⟨u, hu, hue⟩ := List.mem_map.1 hy
    unfold tagP at ht
    obtain ⟨z, _, rfl⟩ := List.mem_map.1 ht
    have h1 := tags_ge rs (i + 1) u hu
    rw [hue] at h1
    simp only at h1
    omega
/-- All entries of all rows, in order. -/
def seqF (rs : List (List En)) : List Tg := srtG (tagsF 0 rs)
theorem seqF_pw {rs : List (List En)} (h : rowsF rs = 0) : (seqF rs).Pairwise ltG := srtG_pw (tags_dist rs 0 (fun r hr => (rowF_ok (rowsF_ok.1 h r hr)).1))
/-- One more entry. -/
def addG (E : List En) (t : Tg) : List En := match E.getLast? with
  | none => [(t.1.1, t.2)]
  | some l => if l.1 = t.1.1 then E.dropLast ++ [(l.1, mrg l.2 t.2)] else E ++ [(t.1.1, t.2)]
def grpG (T : List Tg) : List En := T.foldl addG []
/-- All rows together. -/
def allF (rs : List (List En)) : List En := grpG (seqF rs)
end Go.Proofs.Ytdamlnpfpfpeeaa
