/- S2 MG0 MG1 OB CP0, joined. -/
import Derived.Test.YtgjcopabmdbenaaGreatQZ1
import Derived.Test.YtgjcopabmdbenaaGreatQZ9
import Derived.Lib.Bytealg
import Derived.ProofKit
import Derived.OpenShut
import Derived.Lib.SmallJoins
import Derived.Laws.CopyOwn
import Derived.Laws.OwnMore
/- The order of bytes, and lists of entries in that order. -/
namespace Go.Proofs.YtgjcopabmdbenaaGreat
open Go.Lib

abbrev Ks := List UInt8
/-- Bytes stand ahead of others. -/
def ltK (a b : Ks) : Prop := compareBytes a b = -1
instance (a b : Ks) : Decidable (ltK a b) := inferInstanceAs (Decidable (_ = _))
theorem cmp_three : ∀ a b : Ks, compareBytes a b = -1 ∨ compareBytes a b = 0 ∨ compareBytes a b = 1
  | [], [] => by simp [compareBytes]
  | [], _ :: _ => by simp [compareBytes]
  | _ :: _, [] => by simp [compareBytes]
  | a :: l1, b :: l2 => by
    unfold compareBytes
    split
    · simp
    · split
      · simp
      · exact cmp_three l1 l2
theorem u8_tri {a b : UInt8} (h1 : ¬ a < b) (h2 : ¬ b < a) : a = b := by
  apply UInt8.toNat.inj
  have h1' : ¬ a.toNat < b.toNat := h1
  have h2' : ¬ b.toNat < a.toNat := h2
  omega
theorem cmp_refl : ∀ a : Ks, compareBytes a a = 0
  | [] => rfl
  | a :: l1 => by
    unfold compareBytes
    have h : ¬ a < a := fun h => Nat.lt_irrefl _ (show a.toNat < a.toNat from h)
    rw [if_neg h, if_neg h]; exact cmp_refl l1
theorem cmp_zero : ∀ {a b : Ks}, compareBytes a b = 0 → a = b
  | [], [], _ => rfl
  | [], _ :: _, h => by simp [compareBytes] at h
  | _ :: _, [], h => by simp [compareBytes] at h
  | a :: l1, b :: l2, h => by
    unfold compareBytes at h
    by_cases h1 : a < b
    · rw [if_pos h1] at h; simp at h
    · rw [if_neg h1] at h
      by_cases h2 : b < a
      · rw [if_pos h2] at h; simp at h
      · rw [if_neg h2] at h
        rw [u8_tri h1 h2, cmp_zero h]
theorem cmp_swap : ∀ a b : Ks, compareBytes b a = - compareBytes a b
  | [], [] => rfl
  | [], _ :: _ => rfl
  | _ :: _, [] => rfl
  | a :: l1, b :: l2 => by
    unfold compareBytes
    by_cases h1 : a < b
    · have h2 : ¬ b < a := fun h => by have h1' : a.toNat < b.toNat := h1; have h' : b.toNat < a.toNat := h; omega
      rw [if_pos h1, if_neg h2, if_pos h1]; rfl
    · by_cases h2 : b < a
      · rw [if_pos h2, if_neg h1, if_pos h2]
      · rw [if_neg h1, if_neg h2, if_neg h2, if_neg h1]; exact cmp_swap l1 l2
theorem ltK_trans : ∀ {a b c : Ks}, ltK a b → ltK b c → ltK a c
  | [], [], _, h, _ => by simp [ltK, compareBytes] at h
  | [], _ :: _, [], _, h => by simp [ltK, compareBytes] at h
  | [], _ :: _, _ :: _, _, _ => by simp [ltK, compareBytes]
  | _ :: _, [], _, h, _ => by simp [ltK, compareBytes] at h
  | _ :: _, _ :: _, [], _, h => by simp [ltK, compareBytes] at h
  | a :: l1, b :: l2, c :: l3, h1, h2 => by
    unfold ltK compareBytes at h1 h2 ⊢
    by_cases p1 : a < b
    · by_cases q1 : b < c
      · have : a < c := by have p' : a.toNat < b.toNat := p1; have q' : b.toNat < c.toNat := q1; exact (show a.toNat < c.toNat by omega)
        rw [if_pos this]
      · rw [if_neg q1] at h2
        by_cases q2 : c < b
        · rw [if_pos q2] at h2; simp at h2
        · have : b = c := u8_tri q1 q2
          subst this
          rw [if_pos p1]
    · rw [if_neg p1] at h1
      by_cases p2 : b < a
      · rw [if_pos p2] at h1; simp at h1
      · have : a = b := u8_tri p1 p2
        subst this
        rw [if_neg p2] at h1
        by_cases q1 : a < c
        · rw [if_pos q1]
        · rw [if_neg q1] at h2 ⊢
          by_cases q2 : c < a
          · rw [if_pos q2] at h2; simp at h2
          · rw [if_neg q2] at h2 ⊢
            exact ltK_trans h1 h2
theorem ltK_irrefl (a : Ks) : ¬ ltK a a := by unfold ltK; rw [cmp_refl]; decide
theorem ltK_ne {a b : Ks} (h : ltK a b) : a ≠ b := fun e => by subst e; exact ltK_irrefl _ h
theorem ltK_asymm {a b : Ks} (h : ltK a b) : ¬ ltK b a := fun h2 => ltK_irrefl _ (ltK_trans h h2)
theorem ltK_tri (a b : Ks) : ltK a b ∨ a = b ∨ ltK b a := by
  rcases cmp_three a b with h | h | h
  · exact .inl h
  · exact .inr (.inl (cmp_zero h))
  · right; right; unfold ltK; rw [cmp_swap a b, h]
theorem not_ltK {a b : Ks} : ¬ ltK a b ↔ a = b ∨ ltK b a := by
  constructor
  · intro h; rcases ltK_tri a b with h1 | h1 | h1
    · exact absurd h1 h
    · exact .inl h1
    · exact .inr h1
  · rintro (rfl | h)
    · exact ltK_irrefl _
    · exact ltK_asymm h
theorem cmp_ge {a b : Ks} : (0 ≤ compareBytes a b) ↔ ¬ ltK a b := by
  unfold ltK; rcases cmp_three a b with h | h | h <;> rw [h] <;> decide

/-- How many of a rising list's keys stand ahead of a key. -/
def plK (N : List Ks) (k : Ks) : Nat := (N.takeWhile fun x => decide (ltK x k)).length
theorem plK_le (N : List Ks) (k : Ks) : plK N k ≤ N.length := by
  unfold plK; exact (List.takeWhile_sublist _).length_le
theorem plK_lt {N : List Ks} {k : Ks} {i : Nat} (h : i < plK N k) (hi : i < N.length) : ltK N[i] k := by
  induction N generalizing i with
  | nil => simp at hi
  | cons x N ih =>
    by_cases hx : ltK x k
    · have e : plK (x :: N) k = plK N k + 1 := by unfold plK; rw [List.takeWhile_cons_of_pos (by simpa using hx)]; rfl
      cases i with
      | zero => exact hx
      | succ i => exact ih (by omega) (by simpa using hi)
    · have e : plK (x :: N) k = 0 := by unfold plK; rw [List.takeWhile_cons_of_neg (by simpa using hx)]; rfl
      omega
theorem plK_ge {N : List Ks} {k : Ks} (hs : N.Pairwise ltK) {i : Nat} (h : plK N k ≤ i) (hi : i < N.length) : ¬ ltK N[i] k := by
  induction N generalizing i with
  | nil => simp at hi
  | cons x N ih =>
    rw [List.pairwise_cons] at hs
    by_cases hx : ltK x k
    · have e : plK (x :: N) k = plK N k + 1 := by unfold plK; rw [List.takeWhile_cons_of_pos (by simpa using hx)]; rfl
      cases i with
      | zero => omega
      | succ i =>
        rw [List.getElem_cons_succ]
        exact ih hs.2 (by omega) (by simpa using hi)
    · cases i with
      | zero => exact hx
      | succ i =>
        rw [List.getElem_cons_succ]
        intro h2
        have hm : N[i]'(by simpa using hi) ∈ N := List.getElem_mem _
        exact hx (ltK_trans (hs.1 _ hm) h2)
end Go.Proofs.YtgjcopabmdbenaaGreat

/- Heaps, as lists: what sinking does. -/
namespace Go.Proofs.YtgjcopabmdbenaaGreat

section
variable {α : Type}
theorem getD_set' (P : List α) (i j : Nat) (x z : α) (h : i < P.length) : (P.set i x).getD j z = if i = j then x else P.getD j z := by
  rw [List.getD_eq_getElem?_getD, List.getElem?_set]
  by_cases e : i = j
  · rw [if_pos e, if_pos e, if_pos h]; rfl
  · rw [if_neg e, if_neg e, ← List.getD_eq_getElem?_getD]
/-- Two places change. -/
def swp (z : α) (P : List α) (a b : Nat) : List α := (P.set a (P.getD b z)).set b (P.getD a z)
theorem swp_len (z : α) (P : List α) (a b : Nat) : (swp z P a b).length = P.length := by simp [swp]
theorem swp_at (z : α) {P : List α} {a b : Nat} (ha : a < P.length) (hb : b < P.length) (i : Nat) : (swp z P a b).getD i z = if b = i then P.getD a z else if a = i then P.getD b z else P.getD i z := by
  unfold swp
  rw [getD_set' _ _ _ _ _ (by simpa using hb), getD_set' _ _ _ _ _ ha]
theorem getD_get {P : List α} {i : Nat} (z : α) (h : i < P.length) : P.getD i z = P[i] := by simp [List.getD, h]
theorem swp_perm (z : α) {P : List α} {a b : Nat} (ha : a < P.length) (hb : b < P.length) : (swp z P a b).Perm P := by
  unfold swp
  rw [getD_get z ha, getD_get z hb]
  exact List.set_set_perm ha hb
/-- A heap from a place on. -/
def HQ (lt : α → α → Prop) (z : α) (P : List α) (s : Nat) : Prop := ∀ i, i < P.length → 0 < i → s ≤ (i - 1) / 2 → ¬ lt (P.getD i z) (P.getD ((i - 1) / 2) z)
/-- A heap from a place on, but for one that sinks. -/
structure HI (lt : α → α → Prop) (z : α) (P : List α) (s t : Nat) : Prop where
  i1 : ∀ i, i < P.length → 0 < i → s ≤ (i - 1) / 2 → (i - 1) / 2 ≠ t → ¬ lt (P.getD i z) (P.getD ((i - 1) / 2) z)
  i2 : s < t → s ≤ (t - 1) / 2 → ∀ c, c < P.length → 0 < c → (c - 1) / 2 = t → ¬ lt (P.getD c z) (P.getD ((t - 1) / 2) z)
  i3 : s ≤ t
theorem HI.start {lt : α → α → Prop} {z : α} {P : List α} {s : Nat} (h : HQ lt z P (s + 1)) : HI lt z P s s :=
  ⟨fun i h1 h2 h3 h4 => h i h1 h2 (by omega), fun h => absurd h (Nat.lt_irrefl _), Nat.le_refl _⟩
theorem HI.stop {lt : α → α → Prop} {z : α} {P : List α} {s t : Nat} (h : HI lt z P s t) (hc : ∀ c, c < P.length → 0 < c → (c - 1) / 2 = t → ¬ lt (P.getD c z) (P.getD t z)) : HQ lt z P s := by
  intro i h1 h2 h3
  by_cases e : (i - 1) / 2 = t
  · rw [e]; exact hc i h1 h2 e
  · exact h.i1 i h1 h2 h3 e
theorem HI.step {lt : α → α → Prop} {z : α} {P : List α} {s t b : Nat} (has : ∀ x y, lt x y → ¬ lt y x) (h : HI lt z P s t) (hb : b < P.length) (hbt : b = 2 * t + 1 ∨ b = 2 * t + 2)
    (hlt : lt (P.getD b z) (P.getD t z)) (hsib : ∀ c, c < P.length → (c = 2 * t + 1 ∨ c = 2 * t + 2) → c ≠ b → ¬ lt (P.getD c z) (P.getD b z)) : HI lt z (swp z P t b) s b := by
  have ht : t < P.length := by omega
  have h3 := h.i3
  refine ⟨fun i h1 h2 h3 h4 => ?_, fun _ _ c h1 h2 h3 => ?_, by omega⟩
  · rw [swp_len] at h1
    rw [swp_at z ht hb, swp_at z ht hb]
    by_cases e1 : b = i
    · subst e1
      rw [if_pos rfl, if_neg (by omega), if_pos (by omega)]
      exact has _ _ hlt
    · rw [if_neg e1]
      by_cases e2 : t = i
      · subst e2
        rw [if_pos rfl, if_neg (by omega), if_neg (by omega)]
        have h5 : s < t := by omega
        exact h.i2 h5 h3 b hb (by omega) (by omega)
      · rw [if_neg e2, if_neg (fun e => h4 e.symm)]
        by_cases e3 : t = (i - 1) / 2
        · rw [if_pos e3]
          exact hsib i h1 (by omega) (fun e => e1 e.symm)
        · rw [if_neg e3]
          exact h.i1 i h1 h2 h3 (fun e => e3 e.symm)
  · rw [swp_len] at h1
    rw [swp_at z ht hb, swp_at z ht hb, if_neg (by omega), if_neg (by omega), if_neg (by omega), if_pos (by omega)]
    have := h.i1 c h1 h2 (by omega) (by omega)
    rw [h3] at this
    exact this
theorem HQ.least {lt : α → α → Prop} {z : α} {P : List α} (h : HQ lt z P 0) (hir : ∀ x, ¬ lt x x) (htr : ∀ x y c, ¬ lt y x → ¬ lt c y → ¬ lt c x) : ∀ i, i < P.length → ¬ lt (P.getD i z) (P.getD 0 z) := by
  intro i
  induction i using Nat.strongRecOn with
  | _ i ih =>
    intro hi
    rcases Nat.eq_zero_or_pos i with rfl | h0
    · exact hir _
    · exact htr _ _ _ (ih ((i - 1) / 2) (by omega) (by omega)) (h i hi h0 (Nat.zero_le _))
end
end Go.Proofs.YtgjcopabmdbenaaGreat

/- Rows of entries, put together: what comes, as lists. -/
namespace Go.Proofs.YtgjcopabmdbenaaGreat

abbrev En := Ks × Ag
def agZ : Ag := ⟨0, false, 0, 0, 0⟩
def keysE (E : List En) : List Ks := E.map Prod.fst
/-- A key and the place of its row. -/
abbrev Kr := Ks × Nat
def ltT (x y : Kr) : Prop := ltK x.1 y.1 ∨ (x.1 = y.1 ∧ x.2 < y.2)
instance (x y : Kr) : Decidable (ltT x y) := inferInstanceAs (Decidable (_ ∨ _))
theorem ltT_irrefl (x : Kr) : ¬ ltT x x := by
  rintro (h | ⟨_, h⟩)
  · exact ltK_irrefl _ h
  · exact Nat.lt_irrefl _ h
theorem ltT_trans {x y z : Kr} (h1 : ltT x y) (h2 : ltT y z) : ltT x z := by
  rcases h1 with h1 | ⟨h1, h1'⟩
  · rcases h2 with h2 | ⟨h2, _⟩
    · exact .inl (ltK_trans h1 h2)
    · exact .inl (h2 ▸ h1)
  · rcases h2 with h2 | ⟨h2, h2'⟩
    · exact .inl (h1 ▸ h2)
    · exact .inr ⟨h1.trans h2, Nat.lt_trans h1' h2'⟩
theorem ltT_asymm {x y : Kr} (h : ltT x y) : ¬ ltT y x := fun h2 => ltT_irrefl _ (ltT_trans h h2)
theorem ltT_tri (x y : Kr) : ltT x y ∨ x = y ∨ ltT y x := by
  obtain ⟨a, m⟩ := x
  obtain ⟨b, n⟩ := y
  rcases ltK_tri a b with h | h | h
  · exact .inl (.inl h)
  · subst h
    rcases Nat.lt_trichotomy m n with h | h | h
    · exact .inl (.inr ⟨rfl, h⟩)
    · subst h; exact .inr (.inl rfl)
    · exact .inr (.inr (.inr ⟨rfl, h⟩))
  · exact .inr (.inr (.inl h))
theorem not_ltT {x y : Kr} : ¬ ltT x y ↔ x = y ∨ ltT y x := by
  constructor
  · intro h
    rcases ltT_tri x y with h1 | h1 | h1
    · exact absurd h1 h
    · exact .inl h1
    · exact .inr h1
  · rintro (rfl | h)
    · exact ltT_irrefl _
    · exact ltT_asymm h
theorem nltT_trans {x y c : Kr} (h1 : ¬ ltT y x) (h2 : ¬ ltT c y) : ¬ ltT c x := by
  rw [not_ltT] at *
  rcases h1 with rfl | h1
  · exact h2
  · rcases h2 with rfl | h2
    · exact .inr h1
    · exact .inr (ltT_trans h1 h2)
/-- An entry, and whose it is. -/
abbrev Tg := Kr × Ag
def ltG (x y : Tg) : Prop := ltT x.1 y.1
/-- What is left of a row, and its place. -/
abbrev Pa := List En × Nat
def hdT (p : Pa) : Kr := ((p.1.head?.map Prod.fst).getD [], p.2)
def ltP (p q : Pa) : Prop := ltT (hdT p) (hdT q)
def tagP (p : Pa) : List Tg := p.1.map fun e => ((e.1, p.2), e.2)
def tags (P : List Pa) : List Tg := P.flatMap tagP
structure GoodP (P : List Pa) : Prop where
  ne : ∀ p ∈ P, p.1 ≠ []
  so : ∀ p ∈ P, (keysE p.1).Pairwise ltK
  nd : (P.map Prod.snd).Nodup
theorem tags_perm {P Q : List Pa} (h : P.Perm Q) : (tags P).Perm (tags Q) := h.flatMap_right _
theorem GoodP.perm {P Q : List Pa} (h : GoodP P) (hp : Q.Perm P) : GoodP Q :=
  ⟨fun p hq => h.ne p (hp.mem_iff.1 hq), fun p hq => h.so p (hp.mem_iff.1 hq), (hp.map Prod.snd).nodup_iff.2 h.nd⟩
/-- Behind the least one stand all others. -/
theorem tags_rest {p : Pa} {P : List Pa} {e : En} {es : List En} (hg : GoodP (p :: P)) (hp : p.1 = e :: es) (hmin : ∀ q ∈ P, ¬ ltP q p) : ∀ t ∈ tags ((es, p.2) :: P), ltT (e.1, p.2) t.1 := by
  intro t ht
  obtain ⟨q, hq, ht⟩ := List.mem_flatMap.1 ht
  unfold tagP at ht
  obtain ⟨x, hx, rfl⟩ := List.mem_map.1 ht
  rcases List.mem_cons.1 hq with rfl | hq
  · have hs := hg.so p (List.mem_cons_self ..)
    rw [hp] at hs
    simp only [keysE, List.map_cons, List.pairwise_cons] at hs
    exact .inl (hs.1 x.1 (List.mem_map.2 ⟨x, hx, rfl⟩))
  · have hne := hg.ne q (List.mem_cons_of_mem _ hq)
    have hs := hg.so q (List.mem_cons_of_mem _ hq)
    have hm := hmin q hq
    obtain ⟨ys, n⟩ := q
    match ys, hne with
    | y :: ys, _ =>
      have h1 : hdT (y :: ys, n) = (y.1, n) := rfl
      have h2 : hdT p = (e.1, p.2) := by unfold hdT; rw [hp]; rfl
      unfold ltP at hm
      rw [h1, h2] at hm
      have hrow : p.2 ≠ n := by
        have hn := hg.nd
        simp only [List.map_cons, List.nodup_cons] at hn
        intro h
        exact hn.1 (h ▸ List.mem_map.2 ⟨_, hq, rfl⟩)
      have h3 : ltT (e.1, p.2) (y.1, n) := by
        rcases not_ltT.1 hm with h | h
        · exact absurd (congrArg Prod.snd h).symm hrow
        · exact h
      rcases List.mem_cons.1 hx with rfl | hx
      · exact h3
      · simp only [keysE, List.map_cons, List.pairwise_cons] at hs
        exact ltT_trans h3 (.inl (hs.1 x.1 (List.mem_map.2 ⟨x, hx, rfl⟩)))
def leG (x y : Tg) : Bool := decide (¬ ltT y.1 x.1)
def srtG (l : List Tg) : List Tg := l.mergeSort leG
theorem srtG_perm (l : List Tg) : (srtG l).Perm l := List.mergeSort_perm l leG
theorem leG_trans (a b c : Tg) (h1 : leG a b = true) (h2 : leG b c = true) : leG a c = true := by
  simp only [leG, decide_eq_true_eq] at *
  exact nltT_trans h1 h2
theorem leG_total (a b : Tg) : (leG a b || leG b a) = true := by
  simp only [leG, Bool.or_eq_true, decide_eq_true_eq]
  by_cases h : ltT b.1 a.1
  · exact .inr (ltT_asymm h)
  · exact .inl h
/-- No two are of one key and one row. -/
def dist (l : List Tg) : Prop := (l.map Prod.fst).Nodup
theorem dist.perm {l m : List Tg} (h : dist l) (hp : m.Perm l) : dist m := (hp.map Prod.fst).nodup_iff.2 h
theorem dist_pw : ∀ {l : List Tg}, l.Pairwise (fun a b => leG a b = true) → dist l → l.Pairwise ltG
  | [], _, _ => .nil
  | x :: l, h, hd => by
    rw [List.pairwise_cons] at h ⊢
    unfold dist at hd
    rw [List.map_cons, List.nodup_cons] at hd
    refine ⟨fun y hy => ?_, dist_pw h.2 hd.2⟩
    have h1 := h.1 y hy
    simp only [leG, decide_eq_true_eq] at h1
    rcases not_ltT.1 h1 with e | e
    · exact absurd (e ▸ List.mem_map.2 ⟨y, hy, rfl⟩) hd.1
    · exact e
theorem srtG_pw {l : List Tg} (h : dist l) : (srtG l).Pairwise ltG :=
  dist_pw (List.pairwise_mergeSort leG_trans leG_total l) (h.perm (srtG_perm l))
theorem pw_unique {l m : List Tg} (hl : l.Pairwise ltG) (hm : m.Pairwise ltG) (hp : l.Perm m) : l = m :=
  List.Perm.eq_of_pairwise (fun _ _ _ _ h1 h2 => absurd h2 (ltT_asymm h1)) hl hm hp
theorem pw_dist {l : List Tg} (h : l.Pairwise ltG) : dist l := by
  unfold dist
  rw [List.Nodup, List.pairwise_map]
  refine h.imp ?_
  intro a b hab e
  unfold ltG at hab
  rw [e] at hab
  exact ltT_irrefl _ hab
/-- What is told next. -/
theorem next_tag {p : Pa} {P : List Pa} {e : En} {es : List En} {T : List Tg} (hg : GoodP (p :: P)) (hp : p.1 = e :: es) (hmin : ∀ q ∈ P, ¬ ltP q p) (hT : T.Pairwise ltG) (hperm : T.Perm (tags (p :: P))) :
    ∃ T', T = ((e.1, p.2), e.2) :: T' ∧ T'.Pairwise ltG ∧ T'.Perm (tags ((es, p.2) :: P)) := by
  have h1 : tags (p :: P) = ((e.1, p.2), e.2) :: tags ((es, p.2) :: P) := by
    unfold tags
    rw [List.flatMap_cons, List.flatMap_cons]
    unfold tagP
    rw [hp]; rfl
  have hd : dist (tags (p :: P)) := (pw_dist hT).perm hperm.symm
  rw [h1] at hd
  have hd' : dist (tags ((es, p.2) :: P)) := by
    unfold dist at hd ⊢
    rw [List.map_cons, List.nodup_cons] at hd
    exact hd.2
  refine ⟨srtG (tags ((es, p.2) :: P)), ?_, srtG_pw hd', srtG_perm _⟩
  refine pw_unique hT ?_ (hperm.trans ?_)
  · rw [List.pairwise_cons]
    exact ⟨fun t ht => tags_rest hg hp hmin t ((srtG_perm _).mem_iff.1 ht), srtG_pw hd'⟩
  · rw [h1]; exact (srtG_perm _).symm.cons _
/-- Rows as parts, from a place on. -/
def partsF : Nat → List (List En) → List Pa
  | _, [] => []
  | i, r :: rs => if r = [] then partsF (i + 1) rs else (r, i) :: partsF (i + 1) rs
def tagsF : Nat → List (List En) → List Tg
  | _, [] => []
  | i, r :: rs => tagP (r, i) ++ tagsF (i + 1) rs
theorem tags_parts : ∀ (rs : List (List En)) (i : Nat), tags (partsF i rs) = tagsF i rs
  | [], _ => rfl
  | r :: rs, i => by
    unfold partsF tagsF
    by_cases h : r = []
    · rw [if_pos h, tags_parts rs (i + 1), h]; rfl
    · rw [if_neg h, ← tags_parts rs (i + 1)]; rfl
theorem parts_ge : ∀ (rs : List (List En)) (i : Nat), ∀ p ∈ partsF i rs, i ≤ p.2 ∧ p.1 ∈ rs ∧ p.1 ≠ [] ∧ p.2 < i + rs.length
  | [], _, p, h => by simp [partsF] at h
  | r :: rs, i, p, h => by
    unfold partsF at h
    by_cases e : r = []
    · rw [if_pos e] at h
      obtain ⟨h1, h2, h3, h4⟩ := parts_ge rs (i + 1) p h
      exact ⟨by omega, List.mem_cons_of_mem _ h2, h3, by simp; omega⟩
    · rw [if_neg e] at h
      rcases List.mem_cons.1 h with rfl | h
      · exact ⟨Nat.le_refl _, List.mem_cons_self .., e, by simp⟩
      · obtain ⟨h1, h2, h3, h4⟩ := parts_ge rs (i + 1) p h
        exact ⟨by omega, List.mem_cons_of_mem _ h2, h3, by simp; omega⟩
theorem parts_nd : ∀ (rs : List (List En)) (i : Nat), ((partsF i rs).map Prod.snd).Nodup
  | [], _ => List.nodup_nil
  | r :: rs, i => by
    unfold partsF
    by_cases e : r = []
    · rw [if_pos e]; exact parts_nd rs (i + 1)
    · rw [if_neg e, List.map_cons, List.nodup_cons]
      refine ⟨fun h => ?_, parts_nd rs (i + 1)⟩
      obtain ⟨p, hp, hpe⟩ := List.mem_map.1 h
      have := (parts_ge rs (i + 1) p hp).1
      simp only at hpe
      omega
/-- May entries be a row? -/
def rowF (L : List En) : Int := if ¬ (keysE L).Pairwise ltK then 50 else if L.all (fun x => rightB x.2) then 0 else 3
def rowsF : List (List En) → Int
  | [] => 0
  | r :: rs => if rowF r = 0 then rowsF rs else rowF r
theorem rowF_ok {L : List En} (h : rowF L = 0) : (keysE L).Pairwise ltK ∧ ∀ x ∈ L, rightB x.2 = true := by
  unfold rowF at h
  split at h
  · simp at h
  · rename_i h1
    split at h
    · rename_i h2
      exact ⟨Classical.not_not.1 h1, fun x hx => List.all_eq_true.1 h2 x hx⟩
    · simp at h
theorem rowF_of {L : List En} (h : (keysE L).Pairwise ltK) (h2 : ∀ x ∈ L, rightB x.2 = true) : rowF L = 0 := by
  unfold rowF
  rw [if_neg (fun hn => hn h), if_pos (List.all_eq_true.2 h2)]
theorem rowsF_ok : ∀ {rs : List (List En)}, rowsF rs = 0 ↔ ∀ r ∈ rs, rowF r = 0
  | [] => by simp [rowsF]
  | r :: rs => by
    unfold rowsF
    by_cases h : rowF r = 0
    · rw [if_pos h, rowsF_ok (rs := rs)]; simp [h]
    · rw [if_neg h]; simp [h]
theorem good_parts {rs : List (List En)} (h : rowsF rs = 0) (i : Nat) : GoodP (partsF i rs) :=
  ⟨fun p hp => (parts_ge rs i p hp).2.2.1, fun p hp => (rowF_ok (rowsF_ok.1 h _ (parts_ge rs i p hp).2.1)).1, parts_nd rs i⟩
theorem tagP_dist {r : List En} {i : Nat} (h : (keysE r).Pairwise ltK) : ((tagP (r, i)).map Prod.fst).Nodup := by
  unfold tagP
  rw [List.map_map, List.Nodup, List.pairwise_map]
  unfold keysE at h
  rw [List.pairwise_map] at h
  refine h.imp (fun {a b} hab e => ?_)
  have : a.1 = b.1 := congrArg (fun x : Kr => x.1) e
  exact ltK_ne hab this
theorem tags_ge : ∀ (rs : List (List En)) (i : Nat), ∀ t ∈ tagsF i rs, i ≤ t.1.2
  | [], _, t, h => by simp [tagsF] at h
  | r :: rs, i, t, h => by
    unfold tagsF at h
    rcases List.mem_append.1 h with h | h
    · unfold tagP at h
      obtain ⟨x, _, rfl⟩ := List.mem_map.1 h
      exact Nat.le_refl _
    · have := tags_ge rs (i + 1) t h; omega
theorem tags_dist : ∀ (rs : List (List En)) (i : Nat), (∀ r ∈ rs, (keysE r).Pairwise ltK) → dist (tagsF i rs)
  | [], _, _ => List.nodup_nil
  | r :: rs, i, h => by
    unfold dist tagsF
    rw [List.map_append, List.nodup_append]
    refine ⟨tagP_dist (h r (List.mem_cons_self ..)), tags_dist rs (i + 1) (fun x hx => h x (List.mem_cons_of_mem _ hx)), fun x hx y hy e => ?_⟩
    subst e
    obtain ⟨t, ht, rfl⟩ := List.mem_map.1 hx
    obtain ⟨u, hu, hue⟩ := List.mem_map.1 hy
    unfold tagP at ht
    obtain ⟨z, _, rfl⟩ := List.mem_map.1 ht
    have h1 := tags_ge rs (i + 1) u hu
    rw [hue] at h1
    simp only at h1
    omega
/-- All entries of all rows, in order. -/
def seqF (rs : List (List En)) : List Tg := srtG (tagsF 0 rs)
theorem seqF_pw {rs : List (List En)} (h : rowsF rs = 0) : (seqF rs).Pairwise ltG := srtG_pw (tags_dist rs 0 (fun r hr => (rowF_ok (rowsF_ok.1 h r hr)).1))
/-- One more entry. -/
def addG (E : List En) (t : Tg) : List En := match E.getLast? with
  | none => [(t.1.1, t.2)]
  | some l => if l.1 = t.1.1 then E.dropLast ++ [(l.1, mrg l.2 t.2)] else E ++ [(t.1.1, t.2)]
def grpG (T : List Tg) : List En := T.foldl addG []
/-- All rows together. -/
def allF (rs : List (List En)) : List En := grpG (seqF rs)
end Go.Proofs.YtgjcopabmdbenaaGreat

/- Bytes, as an argument: what the slice reads. -/
namespace Go.Proofs.YtgjcopabmdbenaaGreat
open Go.ChangeShapes Go.WideShapes Go.ChangeAt Go.RowKit Go.Joins

theorem cell_block {w : World} {a : Addr} {v : Value} (h : w.cell? a = some v) : a.block < w.heap.size ∧ a.spot = none := by
  unfold World.cell? at h
  rcases Nat.lt_or_ge a.block w.heap.size with hb | hb
  · refine ⟨hb, ?_⟩
    split at h
    · split at h
      · cases h
      · rename_i hs; cases hsp : a.spot with
        | none => rfl
        | some s => rw [hsp] at hs; simp at hs
    · cases h
  · rw [Array.getElem?_eq_none hb] at h; cases h
set_option maxRecDepth 100000 in
theorem openB {H : Type} {enc : TypeId × Value → H} {W : World} {r : Reach} {b0 base : Nat} {spare : Nat → Bool} {held : Bool} {v : Value} {d : DataW H} {p : List MemPlace}
    (hv : Value.okWide Tryz.prog W r b0 44 v) (h : DataW.Trod enc Tryz.prog W base spare held 44 v d p) :
    ∃ l : List UInt8, Reads W v l := by
  obtain ⟨a, len, cap, rfl⟩ := okWide_slice Tryz.underlying44 hv
  obtain ⟨fuel, hf⟩ := h
  rcases open_ints Tryz.underlying44 Tryz.underlying5 (by kernel_rfl) hf with ⟨hcs, _⟩ | ⟨x, l, c, zs, hcs, _, hl, hm, hz, _, hcell, hwz⟩
  · simp [Value.cells] at hcs
    obtain ⟨rfl, rfl, rfl⟩ := hcs
    exact ⟨[], .inl ⟨rfl, _, _, rfl, fun _ => rfl⟩⟩
  · simp [Value.cells] at hcs
    obtain ⟨rfl, rfl, rfl⟩ := hcs
    have hzl : len ≤ zs.length := by rw [hz]; split <;> omega
    rcases Nat.eq_zero_or_pos len with h0 | h0
    · subst h0; exact ⟨[], .inl ⟨rfl, _, _, rfl, fun h => by cases h⟩⟩
    · refine ⟨(zs.take len).map fun z => UInt8.ofNat z.toNat, .inr ?_⟩
      have hlen : ((zs.take len).map fun z => UInt8.ofNat z.toNat).length = len := by simp; omega
      have c0 := hcell 0 (by omega)
      have e0 : x.add 0 = x := by simp [Addr.add]
      rw [e0] at c0
      obtain ⟨hb, hs⟩ := cell_block c0
      obtain ⟨b, off, spot⟩ := x
      simp only at hb hs
      subst hs
      refine ⟨b, off, cap, by rw [hlen], by omega, by omega, hm, hb, fun j hj => ?_⟩
      have hj' : j < len := by omega
      have cj := hcell j (by omega)
      have ea : (⟨b, off, none⟩ : Addr).add j = ⟨b, off + j, none⟩ := by simp [Addr.add]
      rw [ea] at cj
      rw [cj]
      have hzj : j < zs.length := by omega
      have hg : zs.getD j 0 = zs[j] := by simp [List.getD, hzj]
      have hw := bounds_u8 (hwz zs[j] (List.getElem_mem hzj))
      rw [hg]
      have e1 : ((zs.take len).map fun z => UInt8.ofNat z.toNat)[j] = UInt8.ofNat (zs[j]).toNat := by simp
      rw [e1]
      unfold bc
      have e2 : (UInt8.ofNat (zs[j]).toNat).toNat = (zs[j]).toNat := by simp [UInt8.toNat_ofNat']; omega
      rw [e2]
      congr 2
      omega
end Go.Proofs.YtgjcopabmdbenaaGreat

/- Bytes that are copied into bytes of one's own; bytes just made. -/
namespace Go.Proofs.YtgjcopabmdbenaaGreat
open Go.RowKit

theorem copy_own {w : World} {base g n off : Nat} {L l : List UInt8} {v : Value} (ty : TypeId) (hO : Own w base (.slice (some ⟨g, 0, none⟩) n n) L) (hR : Reads w v l) (h0 : 0 < l.length) (hl : off + l.length = n) :
    ∃ w3, (Builtin.copy_ #[44, 44] ty #[.slice (some ⟨g, off, none⟩) (n - off) (n - off), v]).run Tryz.prog w = .ok (goInt l.length) w3 ∧ Own w3 base (.slice (some ⟨g, 0, none⟩) n n) (L.take off ++ l) ∧ Hid (Below base w w3) ∧ Hid (w.grownBy w3 (some g)) := by
  obtain ⟨i0, hi, hz0, hz1, hz2⟩ := info_parts info5
  have hLn : L.length = n := by
    obtain ⟨a, cap, hv, _⟩ := hO.form
    simp at hv; omega
  have hOw := hO
  obtain ⟨h1, h2⟩ := hO
  rcases h2 with ⟨h2, _⟩ | ⟨g', cap, cur, hv, hg, hw, hn, hm, hs, ht⟩
  · simp at h2
  · simp at hv
    obtain ⟨rfl, hv2, rfl⟩ := hv
    rcases hR with ⟨rfl, _⟩ | ⟨b, o, cp, rfl, r2, r3, r4, r5, r6⟩
    · simp at h0
    · have hcl : cur.toList = L.map bc := by
        rw [← ht, List.take_of_length_le (by simp; omega)]
      have hrun := run_copy_row (P := Tryz.prog) w 44 44 ty 5 g off (n - off) (n - off) ⟨b, o, none⟩ l.length cp cur 5 (l.map bc) Tryz.underlying44 (by rw [hi]; simp [hz1]) hw (by rw [List.length_map]; exact (Nat.min_eq_left (by omega)).symm) (newsR r6) (by simp; omega) one_bc
      rw [List.length_map] at hrun
      refine ⟨_, hrun, ?_, below_setRow (Below.refl _ _) hg _, ?_⟩
      · have hheap := setRow_heap w g cur (cur.toList.take off ++ l.map bc ++ cur.toList.drop (off + l.length)).toArray 5 (0, 0) hw
        have e1 : cur.toList.take off ++ l.map bc ++ cur.toList.drop (off + l.length) = (L.take off ++ l).map bc := by
          rw [hcl, hl, List.drop_of_length_le (by simp; omega), List.append_nil, List.map_append, List.map_take]
        rw [e1] at hheap ⊢
        have hlen : (L.take off ++ l).length = n := by simp; omega
        refine ⟨by simp, .inr ⟨g, n, _, by rw [hlen], hg, hheap, by omega, hm, by simp; omega, ?_⟩⟩
        rw [hlen, List.toList_toArray, Nat.mul_one]; exact List.take_of_length_le (by rw [List.length_map]; omega)
      · have hb := below_setRow (Below.refl 0 w) (Nat.zero_le g) (cur.toList.take off ++ l.map bc ++ cur.toList.drop (off + l.length)).toArray
        refine ⟨rfl, rfl, rfl, hb.size, fun k hk hne => ?_⟩
        show (w.heap.modify g _)[k]? = _
        rw [Array.getElem?_modify, if_neg (fun e => hne (by rw [e]))]
/-- The same, at one operation. -/
theorem wp_copy {w : World} {o : Oper} {a : Act} {K : Act → World → Prop} {Q : Exit → Act → World → Prop} (d s : Operand)
    (ho : o.op = .call { callee := .builtin .copy, args := #[d, s], argTypes := #[44, 44] }) (base g n off m : Nat) (L l : List UInt8) (v : Value) (hm : n - off = m)
    (hd : a.eval d = .slice (some ⟨g, off, none⟩) m m) (hs : a.eval s = v) (hO : Own w base (.slice (some ⟨g, 0, none⟩) n n) L) (hR : Reads w v l) (h0 : 0 < l.length) (hl : off + l.length = n)
    (h : ∀ w', Own w' base (.slice (some ⟨g, 0, none⟩) n n) (L.take off ++ l) → Hid (Below base w w') → Hid (w.grownBy w' (some g)) → K (a.put o.dst (goInt l.length)) w') : o.wp Tryz.prog a w K Q := by
  subst hm
  obtain ⟨w', hrun, h1, h2, h3⟩ := copy_own (w := w) (off := off) o.type hO hR h0 hl
  unfold Oper.wp
  simp [execOp, ho, resolve, invoke, builtin, hd, hs, hrun, Result.andThen]
  exact h w' h1 h2 h3
theorem own_zeros {w2 : World} {base g n cap : Nat} (h : w2.ownsRow base 5 1 (.slice (some ⟨g, 0, none⟩) n cap) n (madeCells (Value.int .u8 0).cells n).toList) : Own w2 base (.slice (some ⟨g, 0, none⟩) n cap) (List.replicate n 0) := by
  have e0 : (Value.int .u8 0).cells = #[.int .u8 0] := rfl
  rw [e0, toList_madeCells_one] at h
  unfold Own; simpa [bc] using h
end Go.Proofs.YtgjcopabmdbenaaGreat
