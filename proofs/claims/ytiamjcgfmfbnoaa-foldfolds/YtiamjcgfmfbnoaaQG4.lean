/- MG1 OB CP0 ME1, joined. -/
import Derived.Test.YtiamjcgfmfbnoaaQG3
import Derived.ProofKit
import Derived.OpenShut
import Derived.Lib.SmallJoins
import Derived.Laws.CopyOwn
import Derived.Laws.OwnMore
import Derived.Deep.Slices
/- Rows of entries, put together: what comes, as lists. -/
namespace Go.Proofs.Ytiamjcgfmfbnoaa

abbrev En := Ks × Ag
def agZ : Ag := ⟨0, false, 0, 0, 0⟩
def keysE (E : List En) : List Ks := E.map Prod.fst
/-- A key and the place of its row. -/
abbrev Kr := Ks × Nat
def ltT (x y : Kr) : Prop := ltK x.1 y.1 ∨ (x.1 = y.1 ∧ x.2 < y.2)
instance (x y : Kr) : Decidable (ltT x y) := inferInstanceAs (Decidable (_ ∨ _))
theorem ltT_irrefl (x : Kr) : ¬ ltT x x := by
  rintro (h | ⟨_, h⟩)
  · exact ltK_irrefl _ h
  · exact Nat.lt_irrefl _ h
theorem ltT_trans {x y z : Kr} (h1 : ltT x y) (h2 : ltT y z) : ltT x z := by
  rcases h1 with h1 | ⟨h1, h1'⟩
  · rcases h2 with h2 | ⟨h2, _⟩
    · exact .inl (ltK_trans h1 h2)
    · exact .inl (h2 ▸ h1)
  · rcases h2 with h2 | ⟨h2, h2'⟩
    · exact .inl (h1 ▸ h2)
    · exact .inr ⟨h1.trans h2, Nat.lt_trans h1' h2'⟩
theorem ltT_asymm {x y : Kr} (h : ltT x y) : ¬ ltT y x := fun h2 => ltT_irrefl _ (ltT_trans h h2)
theorem ltT_tri (x y : Kr) : ltT x y ∨ x = y ∨ ltT y x := by
  obtain ⟨a, m⟩ := x
  obtain ⟨b, n⟩ := y
  rcases ltK_tri a b with h | h | h
  · exact .inl (.inl h)
  · subst h
    rcases Nat.lt_trichotomy m n with h | h | h
    · exact .inl (.inr ⟨rfl, h⟩)
    · subst h; exact .inr (.inl rfl)
    · exact .inr (.inr (.inr ⟨rfl, h⟩))
  · exact .inr (.inr (.inl h))
theorem not_ltT {x y : Kr} : ¬ ltT x y ↔ x = y ∨ ltT y x := by
  constructor
  · intro h
    rcases ltT_tri x y with h1 | h1 | h1
    · exact absurd h1 h
    · exact .inl h1
    · exact .inr h1
  · rintro (rfl | h)
    · exact ltT_irrefl _
    · exact ltT_asymm h
theorem nltT_trans {x y c : Kr} (h1 : ¬ ltT y x) (h2 : ¬ ltT c y) : ¬ ltT c x := by
  rw [not_ltT] at *
  rcases h1 with rfl | h1
  · exact h2
  · rcases h2 with rfl | h2
    · exact .inr h1
    · exact .inr (ltT_trans h1 h2)
/-- An entry, and whose it is. -/
abbrev Tg := Kr × Ag
def ltG (x y : Tg) : Prop := ltT x.1 y.1
/-- What is left of a row, and its place. -/
abbrev Pa := List En × Nat
def hdT (p : Pa) : Kr := ((p.1.head?.map Prod.fst).getD [], p.2)
def ltP (p q : Pa) : Prop := ltT (hdT p) (hdT q)
def tagP (p : Pa) : List Tg := p.1.map fun e => ((e.1, p.2), e.2)
def tags (P : List Pa) : List Tg := P.flatMap tagP
structure GoodP (P : List Pa) : Prop where
  ne : ∀ p ∈ P, p.1 ≠ []
  so : ∀ p ∈ P, (keysE p.1).Pairwise ltK
  nd : (P.map Prod.snd).Nodup
theorem tags_perm {P Q : List Pa} (h : P.Perm Q) : (tags P).Perm (tags Q) := h.flatMap_right _
theorem GoodP.perm {P Q : List Pa} (h : GoodP P) (hp : Q.Perm P) : GoodP Q :=
  ⟨fun p hq => h.ne p (hp.mem_iff.1 hq), fun p hq => h.so p (hp.mem_iff.1 hq), (hp.map Prod.snd).nodup_iff.2 h.nd⟩
/-- Behind the least one stand all others. -/
theorem tags_rest {p : Pa} {P : List Pa} {e : En} {es : List En} (hg : GoodP (p :: P)) (hp : p.1 = e :: es) (hmin : ∀ q ∈ P, ¬ ltP q p) : ∀ t ∈ tags ((es, p.2) :: P), ltT (e.1, p.2) t.1 := by
  intro t ht
  obtain ⟨q, hq, ht⟩ := List.mem_flatMap.1 ht
  unfold tagP at ht
  obtain ⟨x, hx, rfl⟩ := List.mem_map.1 ht
  rcases List.mem_cons.1 hq with rfl | hq
  · have hs := hg.so p (List.mem_cons_self ..)
    rw [hp] at hs
    simp only [keysE, List.map_cons, List.pairwise_cons] at hs
    exact .inl (hs.1 x.1 (List.mem_map.2 ⟨x, hx, rfl⟩))
  · have hne := hg.ne q (List.mem_cons_of_mem _ hq)
    have hs := hg.so q (List.mem_cons_of_mem _ hq)
    have hm := hmin q hq
    obtain ⟨ys, n⟩ := q
    match ys, hne with
    | y :: ys, _ =>
      have h1 : hdT (y :: ys, n) = (y.1, n) := rfl
      have h2 : hdT p = (e.1, p.2) := by unfold hdT; rw [hp]; rfl
      unfold ltP at hm
      rw [h1, h2] at hm
      have hrow : p.2 ≠ n := by
        have hn := hg.nd
        simp only [List.map_cons, List.nodup_cons] at hn
        intro h
        exact hn.1 (h ▸ List.mem_map.2 ⟨_, hq, rfl⟩)
      have h3 : ltT (e.1, p.2) (y.1, n) := by
        rcases not_ltT.1 hm with h | h
        · exact absurd (congrArg Prod.snd h).symm hrow
        · exact h
      rcases List.mem_cons.1 hx with rfl | hx
      · exact h3
      · simp only [keysE, List.map_cons, List.pairwise_cons] at hs
        exact ltT_trans h3 (.inl (hs.1 x.1 (List.mem_map.2 ⟨x, hx, rfl⟩)))
def leG (x y : Tg) : Bool := decide (¬ ltT y.1 x.1)
def srtG (l : List Tg) : List Tg := l.mergeSort leG
theorem srtG_perm (l : List Tg) : (srtG l).Perm l := List.mergeSort_perm l leG
theorem leG_trans (a b c : Tg) (h1 : leG a b = true) (h2 : leG b c = true) : leG a c = true := by
  simp only [leG, decide_eq_true_eq] at *
  exact nltT_trans h1 h2
theorem leG_total (a b : Tg) : (leG a b || leG b a) = true := by
  simp only [leG, Bool.or_eq_true, decide_eq_true_eq]
  by_cases h : ltT b.1 a.1
  · exact .inr (ltT_asymm h)
  · exact .inl h
/-- No two are of one key and one row. -/
def dist (l : List Tg) : Prop := (l.map Prod.fst).Nodup
theorem dist.perm {l m : List Tg} (h : dist l) (hp : m.Perm l) : dist m := (hp.map Prod.fst).nodup_iff.2 h
theorem dist_pw : ∀ {l : List Tg}, l.Pairwise (fun a b => leG a b = true) → dist l → l.Pairwise ltG
  | [], _, _ => .nil
  | x :: l, h, hd => by
    rw [List.pairwise_cons] at h ⊢
    unfold dist at hd
    rw [List.map_cons, List.nodup_cons] at hd
    refine ⟨fun y hy => ?_, dist_pw h.2 hd.2⟩
    have h1 := h.1 y hy
    simp only [leG, decide_eq_true_eq] at h1
    rcases not_ltT.1 h1 with e | e
    · exact absurd (e ▸ List.mem_map.2 ⟨y, hy, rfl⟩) hd.1
    · exact e
theorem srtG_pw {l : List Tg} (h : dist l) : (srtG l).Pairwise ltG :=
  dist_pw (List.pairwise_mergeSort leG_trans leG_total l) (h.perm (srtG_perm l))
theorem pw_unique {l m : List Tg} (hl : l.Pairwise ltG) (hm : m.Pairwise ltG) (hp : l.Perm m) : l = m :=
  List.Perm.eq_of_pairwise (fun _ _ _ _ h1 h2 => absurd h2 (ltT_asymm h1)) hl hm hp
theorem pw_dist {l : List Tg} (h : l.Pairwise ltG) : dist l := by
  unfold dist
  rw [List.Nodup, List.pairwise_map]
  refine h.imp ?_
  intro a b hab e
  unfold ltG at hab
  rw [e] at hab
  exact ltT_irrefl _ hab
/-- What is told next. -/
theorem next_tag {p : Pa} {P : List Pa} {e : En} {es : List En} {T : List Tg} (hg : GoodP (p :: P)) (hp : p.1 = e :: es) (hmin : ∀ q ∈ P, ¬ ltP q p) (hT : T.Pairwise ltG) (hperm : T.Perm (tags (p :: P))) :
    ∃ T', T = ((e.1, p.2), e.2) :: T' ∧ T'.Pairwise ltG ∧ T'.Perm (tags ((es, p.2) :: P)) := by
  have h1 : tags (p :: P) = ((e.1, p.2), e.2) :: tags ((es, p.2) :: P) := by
    unfold tags
    rw [List.flatMap_cons, List.flatMap_cons]
    unfold tagP
    rw [hp]; rfl
  have hd : dist (tags (p :: P)) := (pw_dist hT).perm hperm.symm
  rw [h1] at hd
  have hd' : dist (tags ((es, p.2) :: P)) := by
    unfold dist at hd ⊢
    rw [List.map_cons, List.nodup_cons] at hd
    exact hd.2
  refine ⟨srtG (tags ((es, p.2) :: P)), ?_, srtG_pw hd', srtG_perm _⟩
  refine pw_unique hT ?_ (hperm.trans ?_)
  · rw [List.pairwise_cons]
    exact ⟨fun t ht => tags_rest hg hp hmin t ((srtG_perm _).mem_iff.1 ht), srtG_pw hd'⟩
  · rw [h1]; exact (srtG_perm _).symm.cons _
/-- Rows as parts, from a place on. -/
def partsF : Nat → List (List En) → List Pa
  | _, [] => []
  | i, r :: rs => if r = [] then partsF (i + 1) rs else (r, i) :: partsF (i + 1) rs
def tagsF : Nat → List (List En) → List Tg
  | _, [] => []
  | i, r :: rs => tagP (r, i) ++ tagsF (i + 1) rs
theorem tags_parts : ∀ (rs : List (List En)) (i : Nat), tags (partsF i rs) = tagsF i rs
  | [], _ => rfl
  | r :: rs, i => by
    unfold partsF tagsF
    by_cases h : r = []
    · rw [if_pos h, tags_parts rs (i + 1), h]; rfl
    · rw [if_neg h, ← tags_parts rs (i + 1)]; rfl
theorem parts_ge : ∀ (rs : List (List En)) (i : Nat), ∀ p ∈ partsF i rs, i ≤ p.2 ∧ p.1 ∈ rs ∧ p.1 ≠ [] ∧ p.2 < i + rs.length
  | [], _, p, h => by simp [partsF] at h
  | r :: rs, i, p, h => by
    unfold partsF at h
    by_cases e : r = []
    · rw [if_pos e] at h
      obtain ⟨h1, h2, h3, h4⟩ := parts_ge rs (i + 1) p h
      exact ⟨by omega, List.mem_cons_of_mem _ h2, h3, by simp; omega⟩
    · rw [if_neg e] at h
      rcases List.mem_cons.1 h with rfl | h
      · exact ⟨Nat.le_refl _, List.mem_cons_self .., e, by simp⟩
      · obtain ⟨h1, h2, h3, h4⟩ := parts_ge rs (i + 1) p h
        exact ⟨by omega, List.mem_cons_of_mem _ h2, h3, by simp; omega⟩
theorem parts_nd : ∀ (rs : List (List En)) (i : Nat), ((partsF i rs).map Prod.snd).Nodup
  | [], _ => List.nodup_nil
  | r :: rs, i => by
    unfold partsF
    by_cases e : r = []
    · rw [if_pos e]; exact parts_nd rs (i + 1)
    · rw [if_neg e, List.map_cons, List.nodup_cons]
      refine ⟨fun h => ?_, parts_nd rs (i + 1)⟩
      obtain ⟨p, hp, hpe⟩ := List.mem_map.1 h
      have := (parts_ge rs (i + 1) p hp).1
      simp only at hpe
      omega
/-- May entries be a row? -/
def rowF (L : List En) : Int := if ¬ (keysE L).Pairwise ltK then 50 else if L.all (fun x => rightB x.2) then 0 else 3
def rowsF : List (List En) → Int
  | [] => 0
  | r :: rs => if rowF r = 0 then rowsF rs else rowF r
theorem rowF_ok {L : List En} (h : rowF L = 0) : (keysE L).Pairwise ltK ∧ ∀ x ∈ L, rightB x.2 = true := by
  unfold rowF at h
  split at h
  · simp at h
  · rename_i h1
    split at h
    · rename_i h2
      exact ⟨Classical.not_not.1 h1, fun x hx => List.all_eq_true.1 h2 x hx⟩
    · simp at h
theorem rowF_of {L : List En} (h : (keysE L).Pairwise ltK) (h2 : ∀ x ∈ L, rightB x.2 = true) : rowF L = 0 := by
  unfold rowF
  rw [if_neg (fun hn => hn h), if_pos (List.all_eq_true.2 h2)]
theorem rowsF_ok : ∀ {rs : List (List En)}, rowsF rs = 0 ↔ ∀ r ∈ rs, rowF r = 0
  | [] => by simp [rowsF]
  | r :: rs => by
    unfold rowsF
    by_cases h : rowF r = 0
    · rw [if_pos h, rowsF_ok (rs := rs)]; simp [h]
    · rw [if_neg h]; simp [h]
theorem good_parts {rs : List (List En)} (h : rowsF rs = 0) (i : Nat) : GoodP (partsF i rs) :=
  ⟨fun p hp => (parts_ge rs i p hp).2.2.1, fun p hp => (rowF_ok (rowsF_ok.1 h _ (parts_ge rs i p hp).2.1)).1, parts_nd rs i⟩
theorem tagP_dist {r : List En} {i : Nat} (h : (keysE r).Pairwise ltK) : ((tagP (r, i)).map Prod.fst).Nodup := by
  unfold tagP
  rw [List.map_map, List.Nodup, List.pairwise_map]
  unfold keysE at h
  rw [List.pairwise_map] at h
  refine h.imp (fun {a b} hab e => ?_)
  have : a.1 = b.1 := congrArg (fun x : Kr => x.1) e
  exact ltK_ne hab this
theorem tags_ge : ∀ (rs : List (List En)) (i : Nat), ∀ t ∈ tagsF i rs, i ≤ t.1.2
  | [], _, t, h => by simp [tagsF] at h
  | r :: rs, i, t, h => by
    unfold tagsF at h
    rcases List.mem_append.1 h with h | h
    · unfold tagP at h
      obtain ⟨x, _, rfl⟩ := List.mem_map.1 h
      exact Nat.le_refl _
    · have := tags_ge rs (i + 1) t h; omega
theorem tags_dist : ∀ (rs : List (List En)) (i : Nat), (∀ r ∈ rs, (keysE r).Pairwise ltK) → dist (tagsF i rs)
  | [], _, _ => List.nodup_nil
  | r :: rs, i, h => by
    unfold dist tagsF
    rw [List.map_append, List.nodup_append]
    refine ⟨tagP_dist (h r (List.mem_cons_self ..)), tags_dist rs (i + 1) (fun x hx => h x (List.mem_cons_of_mem _ hx)), fun x hx y hy e => ?_⟩
    subst e
    obtain ⟨t, ht, rfl⟩ := List.mem_map.1 hx
    obtain ⟨u, hu, hue⟩ := List.mem_map.1 hy
    unfold tagP at ht
    obtain ⟨z, _, rfl⟩ := List.mem_map.1 ht
    have h1 := tags_ge rs (i + 1) u hu
    rw [hue] at h1
    simp only at h1
    omega
/-- All entries of all rows, in order. -/
def seqF (rs : List (List En)) : List Tg := srtG (tagsF 0 rs)
theorem seqF_pw {rs : List (List En)} (h : rowsF rs = 0) : (seqF rs).Pairwise ltG := srtG_pw (tags_dist rs 0 (fun r hr => (rowF_ok (rowsF_ok.1 h r hr)).1))
/-- One more entry. -/
def addG (E : List En) (t : Tg) : List En := match E.getLast? with
  | none => [(t.1.1, t.2)]
  | some l => if l.1 = t.1.1 then E.dropLast ++ [(l.1, mrg l.2 t.2)] else E ++ [(t.1.1, t.2)]
def grpG (T : List Tg) : List En := T.foldl addG []
/-- All rows together. -/
def allF (rs : List (List En)) : List En := grpG (seqF rs)
end Go.Proofs.Ytiamjcgfmfbnoaa

/- Bytes, as an argument: what the slice reads. -/
namespace Go.Proofs.Ytiamjcgfmfbnoaa
open Go.ChangeShapes Go.WideShapes Go.ChangeAt Go.RowKit Go.Joins

theorem cell_block {w : World} {a : Addr} {v : Value} (h : w.cell? a = some v) : a.block < w.heap.size ∧ a.spot = none := by
  unfold World.cell? at h
  rcases Nat.lt_or_ge a.block w.heap.size with hb | hb
  · refine ⟨hb, ?_⟩
    split at h
    · split at h
      · cases h
      · rename_i hs; cases hsp : a.spot with
        | none => rfl
        | some s => rw [hsp] at hs; simp at hs
    · cases h
  · rw [Array.getElem?_eq_none hb] at h; cases h
set_option maxRecDepth 100000 in
theorem openB {H : Type} {enc : TypeId × Value → H} {W : World} {r : Reach} {b0 base : Nat} {spare : Nat → Bool} {held : Bool} {v : Value} {d : DataW H} {p : List MemPlace}
    (hv : Value.okWide Try.prog W r b0 36 v) (h : DataW.Trod enc Try.prog W base spare held 36 v d p) :
    ∃ l : List UInt8, Reads W v l := by
  obtain ⟨a, len, cap, rfl⟩ := okWide_slice Try.underlying36 hv
  obtain ⟨fuel, hf⟩ := h
  rcases open_ints Try.underlying36 Try.underlying5 (by kernel_rfl) hf with ⟨hcs, _⟩ | ⟨x, l, c, zs, hcs, _, hl, hm, hz, _, hcell, hwz⟩
  · simp [Value.cells] at hcs
    obtain ⟨rfl, rfl, rfl⟩ := hcs
    exact ⟨[], .inl ⟨rfl, _, _, rfl, fun _ => rfl⟩⟩
  · simp [Value.cells] at hcs
    obtain ⟨rfl, rfl, rfl⟩ := hcs
    have hzl : len ≤ zs.length := by rw [hz]; split <;> omega
    rcases Nat.eq_zero_or_pos len with h0 | h0
    · subst h0; exact ⟨[], .inl ⟨rfl, _, _, rfl, fun h => by cases h⟩⟩
    · refine ⟨(zs.take len).map fun z => UInt8.ofNat z.toNat, .inr ?_⟩
      have hlen : ((zs.take len).map fun z => UInt8.ofNat z.toNat).length = len := by simp; omega
      have c0 := hcell 0 (by omega)
      have e0 : x.add 0 = x := by simp [Addr.add]
      rw [e0] at c0
      obtain ⟨hb, hs⟩ := cell_block c0
      obtain ⟨b, off, spot⟩ := x
      simp only at hb hs
      subst hs
      refine ⟨b, off, cap, by rw [hlen], by omega, by omega, hm, hb, fun j hj => ?_⟩
      have hj' : j < len := by omega
      have cj := hcell j (by omega)
      have ea : (⟨b, off, none⟩ : Addr).add j = ⟨b, off + j, none⟩ := by simp [Addr.add]
      rw [ea] at cj
      rw [cj]
      have hzj : j < zs.length := by omega
      have hg : zs.getD j 0 = zs[j] := by simp [List.getD, hzj]
      have hw := bounds_u8 (hwz zs[j] (List.getElem_mem hzj))
      rw [hg]
      have e1 : ((zs.take len).map fun z => UInt8.ofNat z.toNat)[j] = UInt8.ofNat (zs[j]).toNat := by simp
      rw [e1]
      unfold bc
      have e2 : (UInt8.ofNat (zs[j]).toNat).toNat = (zs[j]).toNat := by simp [UInt8.toNat_ofNat']; omega
      rw [e2]
      congr 2
      omega
end Go.Proofs.Ytiamjcgfmfbnoaa

/- Bytes that are copied into bytes of one's own; bytes just made. -/
namespace Go.Proofs.Ytiamjcgfmfbnoaa
open Go.RowKit

theorem copy_own {w : World} {base g n off : Nat} {L l : List UInt8} {v : Value} (ty : TypeId) (hO : Own w base (.slice (some ⟨g, 0, none⟩) n n) L) (hR : Reads w v l) (h0 : 0 < l.length) (hl : off + l.length = n) :
    ∃ w3, (Builtin.copy_ #[36, 36] ty #[.slice (some ⟨g, off, none⟩) (n - off) (n - off), v]).run Try.prog w = .ok (goInt l.length) w3 ∧ Own w3 base (.slice (some ⟨g, 0, none⟩) n n) (L.take off ++ l) ∧ Hid (Below base w w3) ∧ Hid (w.grownBy w3 (some g)) := by
  obtain ⟨i0, hi, hz0, hz1, hz2⟩ := info_parts info5
  have hLn : L.length = n := by
    obtain ⟨a, cap, hv, _⟩ := hO.form
    simp at hv; omega
  have hOw := hO
  obtain ⟨h1, h2⟩ := hO
  rcases h2 with ⟨h2, _⟩ | ⟨g', cap, cur, hv, hg, hw, hn, hm, hs, ht⟩
  · simp at h2
  · simp at hv
    obtain ⟨rfl, hv2, rfl⟩ := hv
    rcases hR with ⟨rfl, _⟩ | ⟨b, o, cp, rfl, r2, r3, r4, r5, r6⟩
    · simp at h0
    · have hcl : cur.toList = L.map bc := by
        rw [← ht, List.take_of_length_le (by simp; omega)]
      have hrun := run_copy_row (P := Try.prog) w 36 36 ty 5 g off (n - off) (n - off) ⟨b, o, none⟩ l.length cp cur 5 (l.map bc) Try.underlying36 (by rw [hi]; simp [hz1]) hw (by rw [List.length_map]; exact (Nat.min_eq_left (by omega)).symm) (newsR r6) (by simp; omega) one_bc
      rw [List.length_map] at hrun
      refine ⟨_, hrun, ?_, below_setRow (Below.refl _ _) hg _, ?_⟩
      · have hheap := setRow_heap w g cur (cur.toList.take off ++ l.map bc ++ cur.toList.drop (off + l.length)).toArray 5 (0, 0) hw
        have e1 : cur.toList.take off ++ l.map bc ++ cur.toList.drop (off + l.length) = (L.take off ++ l).map bc := by
          rw [hcl, hl, List.drop_of_length_le (by simp; omega), List.append_nil, List.map_append, List.map_take]
        rw [e1] at hheap ⊢
        have hlen : (L.take off ++ l).length = n := by simp; omega
        refine ⟨by simp, .inr ⟨g, n, _, by rw [hlen], hg, hheap, by omega, hm, by simp; omega, ?_⟩⟩
        rw [hlen, List.toList_toArray, Nat.mul_one]; exact List.take_of_length_le (by rw [List.length_map]; omega)
      · have hb := below_setRow (Below.refl 0 w) (Nat.zero_le g) (cur.toList.take off ++ l.map bc ++ cur.toList.drop (off + l.length)).toArray
        refine ⟨rfl, rfl, rfl, hb.size, fun k hk hne => ?_⟩
        show (w.heap.modify g _)[k]? = _
        rw [Array.getElem?_modify, if_neg (fun e => hne (by rw [e]))]
/-- The same, at one operation. -/
theorem wp_copy {w : World} {o : Oper} {a : Act} {K : Act → World → Prop} {Q : Exit → Act → World → Prop} (d s : Operand)
    (ho : o.op = .call { callee := .builtin .copy, args := #[d, s], argTypes := #[36, 36] }) (base g n off m : Nat) (L l : List UInt8) (v : Value) (hm : n - off = m)
    (hd : a.eval d = .slice (some ⟨g, off, none⟩) m m) (hs : a.eval s = v) (hO : Own w base (.slice (some ⟨g, 0, none⟩) n n) L) (hR : Reads w v l) (h0 : 0 < l.length) (hl : off + l.length = n)
    (h : ∀ w', Own w' base (.slice (some ⟨g, 0, none⟩) n n) (L.take off ++ l) → Hid (Below base w w') → Hid (w.grownBy w' (some g)) → K (a.put o.dst (goInt l.length)) w') : o.wp Try.prog a w K Q := by
  subst hm
  obtain ⟨w', hrun, h1, h2, h3⟩ := copy_own (w := w) (off := off) o.type hO hR h0 hl
  unfold Oper.wp
  simp [execOp, ho, resolve, invoke, builtin, hd, hs, hrun, Result.andThen]
  exact h w' h1 h2 h3
theorem own_zeros {w2 : World} {base g n cap : Nat} (h : w2.ownsRow base 5 1 (.slice (some ⟨g, 0, none⟩) n cap) n (madeCells (Value.int .u8 0).cells n).toList) : Own w2 base (.slice (some ⟨g, 0, none⟩) n cap) (List.replicate n 0) := by
  have e0 : (Value.int .u8 0).cells = #[.int .u8 0] := rfl
  rw [e0, toList_madeCells_one] at h
  unfold Own; simpa [bc] using h
end Go.Proofs.Ytiamjcgfmfbnoaa

/- Entries in memory: those that a slice reads, and those of one's own; rows of them, as arguments. -/
namespace Go.Proofs.Ytiamjcgfmfbnoaa
open Go.ChangeShapes Go.WideShapes Go.ChangeAt Go.RowKit Go.Joins

def agv (a : Ag) : Value := .agg #[.int .u64 a.c, .bool a.o, .int .i64 (hi a.s), .int .u64 (lo a.s), .int .i64 a.mn, .int .i64 a.mx]
def env (kv : Value) (a : Ag) : Value := .agg #[kv, .int .u64 a.c, .bool a.o, .int .i64 (hi a.s), .int .u64 (lo a.s), .int .i64 a.mn, .int .i64 a.mx]
theorem cell_row {w : World} {b : Nat} {cs : Array Value} {T : TypeId} (h : w.heap[b]? = some (.cells cs T)) (i : Nat) (hi : i < cs.size) : w.cell? ⟨b, i, none⟩ = some cs[i] ∧ w.frozen? ⟨b, i, none⟩ = false := by
  refine ⟨by simp [World.cell?, h, hi], by simp [World.frozen?, h]⟩
/-- An entry in memory: its key's slice, its key, what is known. -/
structure Ev where
  kv : Value
  k : Ks
  a : Ag
def c7 (x : Ev) : List Value := [x.kv, .int .u64 x.a.c, .bool x.a.o, .int .i64 (hi x.a.s), .int .u64 (lo x.a.s), .int .i64 x.a.mn, .int .i64 x.a.mx]
def evE (x : Ev) : En := (x.k, x.a)
/-- A slice of entries of one's own. -/
def EOwn (W : World) (base : Nat) (v : Value) (xs : List Ev) : Prop := W.ownsRow base 43 7 v xs.length (xs.flatMap c7) ∧ ∀ x ∈ xs, Own W base x.kv x.k
theorem c7_len (x : Ev) : (c7 x).length = 7 := rfl
theorem flat7 : ∀ (xs : List Ev) (j i : Nat) (hj : j < xs.length), i < 7 → (xs.flatMap c7)[7 * j + i]? = (c7 xs[j])[i]?
  | [], j, i, hj, _ => by simp at hj
  | x :: xs, 0, i, _, hi => by
    rw [List.flatMap_cons, List.getElem?_append_left (by rw [c7_len]; omega)]; simp
  | x :: xs, j + 1, i, hj, hi => by
    rw [List.flatMap_cons, List.getElem?_append_right (by rw [c7_len]; omega), c7_len, show 7 * (j + 1) + i - 7 = 7 * j + i by omega]
    exact flat7 xs j i (by simpa using hj) hi
/-- What a slice of entries holds. -/
theorem EOwn.at {w : World} {base : Nat} {v : Value} {xs : List Ev} (h : EOwn w base v xs) : ∃ a cap, v = .slice a xs.length cap ∧ xs.length ≤ cap ∧ cap ≤ maxLen ∧ (0 < xs.length → ∃ g, a = some ⟨g, 0, none⟩ ∧ base ≤ g ∧ g < w.heap.size ∧ ∀ j (hj : j < xs.length) (i : Nat) (hi : i < 7), w.cell? ⟨g, 7 * j + i, none⟩ = some ((c7 xs[j])[i]'hi) ∧ w.frozen? ⟨g, 7 * j + i, none⟩ = false) := by
  have hlt := World.ownsRow.lt h.1
  rcases h.1.2 with ⟨h1, h2⟩ | ⟨g, cap, cur, hv, hg, hw, hc, hm, _⟩
  · exact ⟨none, 0, by rw [h1, h2], by omega, by simp, fun h0 => by omega⟩
  · have hr := h.1
    rw [hv] at hr
    refine ⟨_, cap, hv, hc, hm, fun _ => ⟨g, rfl, hg, (hlt g (by rw [hv]; rfl)).2, fun j hj i hi => ⟨?_, World.ownsRow.frozenAt hr _⟩⟩⟩
    rw [World.ownsRow.cellAt hr _ (by omega), flat7 xs j i hj hi, List.getElem?_eq_getElem hi]
theorem cellsA : Try.prog.cellsOf 41 = 6 := by kernel_rfl
theorem cellsWd : Try.prog.cellsOf 39 = 2 := by kernel_rfl
theorem cells64 : Try.prog.cellsOf 2 = 1 := by kernel_rfl
theorem cellsU64 : Try.prog.cellsOf 37 = 1 := by kernel_rfl
theorem cellsBool : Try.prog.cellsOf 4 = 1 := by kernel_rfl
theorem array6 {α : Type} {cs : Array α} (h : cs.size = 6) : ∃ c0 c1 c2 c3 c4 c5, cs = #[c0, c1, c2, c3, c4, c5] := by
  obtain ⟨l⟩ := cs
  match l, h with
  | [c0, c1, c2, c3, c4, c5], _ => exact ⟨c0, c1, c2, c3, c4, c5, rfl⟩
theorem some_of_len {α : Type} {xs : List α} {n i : Nat} (h : xs.length = n) (hi : i < n) : ∃ y, xs[i]? = some y := ⟨xs[i], by rw [List.getElem?_eq_getElem (by omega)]⟩

/-- The facts on what is known that come with its kind. -/
structure AgOk (a : Ag) : Prop where
  c1 : 0 ≤ a.c
  c2 : a.c < 18446744073709551616
  n1 : -9223372036854775808 ≤ a.mn
  n2 : a.mn ≤ 9223372036854775807
  x1 : -9223372036854775808 ≤ a.mx
  x2 : a.mx ≤ 9223372036854775807
  s1 : -170141183460469231731687303715884105728 ≤ a.s
  s2 : a.s < 170141183460469231731687303715884105728

set_option maxRecDepth 100000 in
theorem openA' {H : Type} {enc : TypeId × Value → H} {W : World} {base : Nat} {spare : Nat → Bool} {held : Bool} {c0 c1 c2 c3 c4 c5 : Value} {x : DataW H × List MemPlace} {fuel : Nat}
    (hf : DataW.trod enc Try.prog W base spare held fuel 41 [c0, c1, c2, c3, c4, c5] = some x) :
    ∃ a : Ag, [c0, c1, c2, c3, c4, c5] = [.int .u64 a.c, .bool a.o, .int .i64 (hi a.s), .int .u64 (lo a.s), .int .i64 a.mn, .int .i64 a.mx] ∧ AgOk a := by
  obtain ⟨xs, n, _, _, _, hlen, hfs⟩ := DataW.trod_struct Try.underlying41 hf
  obtain ⟨y0, g0⟩ := some_of_len (i := 0) hlen (by decide)
  obtain ⟨y1, g1⟩ := some_of_len (i := 1) hlen (by decide)
  obtain ⟨y2, g2⟩ := some_of_len (i := 2) hlen (by decide)
  obtain ⟨y3, g3⟩ := some_of_len (i := 3) hlen (by decide)
  obtain ⟨y4, g4⟩ := some_of_len (i := 4) hlen (by decide)
  have e0 := (hfs 0 _ rfl).trans g0
  have e1 := (hfs 1 _ rfl).trans g1
  have e2 := (hfs 2 _ rfl).trans g2
  have e3 := (hfs 3 _ rfl).trans g3
  have e4 := (hfs 4 _ rfl).trans g4
  simp [cellsU64] at e0
  simp [cellsBool] at e1
  simp [cellsWd] at e2
  simp [cells64] at e3
  simp [cells64] at e4
  obtain ⟨a0, q0, _, w0⟩ := DataW.trod_int Try.underlying37 e0
  obtain ⟨a1, q1, _⟩ := DataW.trod_bool Try.underlying4 e1
  obtain ⟨a3, q3, _, w3⟩ := DataW.trod_int Try.underlying2 e3
  obtain ⟨a4, q4, _, w4⟩ := DataW.trod_int Try.underlying2 e4
  obtain ⟨z0, z1, m, _, _, f0, f1⟩ := trod_struct2 Try.underlying39 e2
  simp [cells64] at f0
  simp [cellsU64] at f1
  obtain ⟨s0, t0, _, u0⟩ := DataW.trod_int Try.underlying2 f0
  obtain ⟨s1, t1, _, u1⟩ := DataW.trod_int Try.underlying37 f1
  simp at q0 q1 q3 q4 t0 t1
  subst q0 q1 q3 q4 t0 t1
  have b0 := bounds_u64 w0
  have b3 := bounds_i64 w3
  have b4 := bounds_i64 w4
  have d0 := bounds_i64 u0
  have d1 := bounds_u64 u1
  obtain ⟨sx, x1, x2, rfl, rfl⟩ := of_halves s0 s1 (by omega) (by omega) (by omega) (by omega)
  exact ⟨⟨a0, a1, sx, a3, a4⟩, rfl, b0.1, (by have := b0.2; show a0 < _; omega), b3.1, b3.2, b4.1, b4.2, x1, x2⟩
set_option maxRecDepth 100000 in
theorem openB' {H : Type} {enc : TypeId × Value → H} {W : World} {base : Nat} {spare : Nat → Bool} {held : Bool} {cs : List Value} {x : DataW H × List MemPlace} {fuel : Nat}
    (hf : DataW.trod enc Try.prog W base spare held fuel 36 cs = some x) : ∃ v l, cs = [v] ∧ Reads W v l := by
  rcases open_ints Try.underlying36 Try.underlying5 (by kernel_rfl) hf with ⟨rfl, _⟩ | ⟨x, len, cap, zs, rfl, _, hl, hm, hz, _, hcell, hwz⟩
  · exact ⟨_, [], rfl, .inl ⟨rfl, _, _, rfl, fun _ => rfl⟩⟩
  · have hzl : len ≤ zs.length := by rw [hz]; split <;> omega
    rcases Nat.eq_zero_or_pos len with h0 | h0
    · subst h0; exact ⟨_, [], rfl, .inl ⟨rfl, _, _, rfl, fun h => by cases h⟩⟩
    · refine ⟨_, (zs.take len).map fun z => UInt8.ofNat z.toNat, rfl, .inr ?_⟩
      have hlen : ((zs.take len).map fun z => UInt8.ofNat z.toNat).length = len := by simp; omega
      have c0 := hcell 0 (by omega)
      have e0 : x.add 0 = x := by simp [Addr.add]
      rw [e0] at c0
      obtain ⟨hb, hs⟩ := cell_block c0
      obtain ⟨b, off, spot⟩ := x
      simp only at hb hs
      subst hs
      refine ⟨b, off, cap, by rw [hlen], by omega, by omega, hm, hb, fun j hj => ?_⟩
      have hj' : j < len := by omega
      have cj := hcell j (by omega)
      have ea : (⟨b, off, none⟩ : Addr).add j = ⟨b, off + j, none⟩ := by simp [Addr.add]
      rw [ea] at cj
      rw [cj]
      have hzj : j < zs.length := by omega
      have hg : zs.getD j 0 = zs[j] := by simp [List.getD, hzj]
      have hw := bounds_u8 (hwz zs[j] (List.getElem_mem hzj))
      rw [hg]
      have e1 : ((zs.take len).map fun z => UInt8.ofNat z.toNat)[j] = UInt8.ofNat (zs[j]).toNat := by simp
      rw [e1]
      unfold bc
      have e2 : (UInt8.ofNat (zs[j]).toNat).toNat = (zs[j]).toNat := by simp [UInt8.toNat_ofNat']; omega
      rw [e2]
      congr 2
      omega
theorem seven_of {α : Type} : ∀ {l : List α}, l.length = 7 → ∃ c0 c1 c2 c3 c4 c5 c6, l = [c0, c1, c2, c3, c4, c5, c6]
  | [c0, c1, c2, c3, c4, c5, c6], _ => ⟨c0, c1, c2, c3, c4, c5, c6, rfl⟩
set_option maxRecDepth 100000 in
/-- The seven cells of an entry. -/
theorem openE' {H : Type} {enc : TypeId × Value → H} {W : World} {base : Nat} {spare : Nat → Bool} {held : Bool} {c0 c1 c2 c3 c4 c5 c6 : Value} {x : DataW H × List MemPlace} {fuel : Nat}
    (hf : DataW.trod enc Try.prog W base spare held fuel 43 [c0, c1, c2, c3, c4, c5, c6] = some x) :
    ∃ (kv : Value) (k : Ks) (a : Ag), [c0, c1, c2, c3, c4, c5, c6] = c7 ⟨kv, k, a⟩ ∧ Reads W kv k ∧ AgOk a := by
  obtain ⟨z0, z1, m, _, _, f0, f1⟩ := trod_struct2 Try.underlying43 hf
  have ck : Try.prog.cellsOf 36 = 1 := by kernel_rfl
  simp [ck] at f0
  simp [cellsA] at f1
  obtain ⟨kv, k, e0, hr⟩ := openB' f0
  obtain ⟨a, e1, ha⟩ := openA' f1
  simp at e0
  subst e0
  refine ⟨c0, k, a, ?_, hr, ha⟩
  rw [e1]; rfl
def CnOk (a : Ag) : Prop := 0 ≤ a.c ∧ a.c < 18446744073709551616
theorem AgOk.cn {a : Ag} (h : AgOk a) : CnOk a := ⟨h.c1, h.c2⟩
/-- A slice reads these entries. -/
def EReads (w : World) (v : Value) (L : List En) : Prop :=
  ∃ a cap, v = .slice a L.length cap ∧ L.length ≤ cap ∧ cap ≤ maxLen ∧ (L = [] ∨ ∃ b off, a = some ⟨b, off, none⟩ ∧ b < w.heap.size ∧ ∀ j (hj : j < L.length), ∃ kv, (∀ i (hi : i < 7), w.cell? ⟨b, off + (7 * j + i), none⟩ = some ((c7 ⟨kv, L[j].1, L[j].2⟩)[i]'hi)) ∧ Reads w kv L[j].1 ∧ CnOk L[j].2)
theorem EReads.below {w w' : World} {v : Value} {L : List En} (h : EReads w v L) (hb : Below w.heap.size w w') : EReads w' v L := by
  obtain ⟨a, cap, rfl, h1, h2, h3⟩ := h
  refine ⟨a, cap, rfl, h1, h2, ?_⟩
  rcases h3 with h3 | ⟨b, off, h4, h5, h6⟩
  · exact .inl h3
  · refine .inr ⟨b, off, h4, Nat.lt_of_lt_of_le h5 hb.size, fun j hj => ?_⟩
    obtain ⟨kv, g1, g2, g3⟩ := h6 j hj
    exact ⟨kv, fun i hi => (hb.cell (p := ⟨b, off + (7 * j + i), none⟩) h5).trans (g1 i hi), g2.below hb, g3⟩
set_option maxRecDepth 100000 in
theorem openEs {H : Type} {enc : TypeId × Value → H} {W : World} {base : Nat} {spare : Nat → Bool} {held : Bool} {cs : List Value} {x : DataW H × List MemPlace} {fuel : Nat}
    (hf : DataW.trod enc Try.prog W base spare held fuel 25 cs = some x) : ∃ v L, cs = [v] ∧ EReads W v L := by
  rcases Go.Deep.open_slice Try.underlying25 hf with ⟨hcs, _⟩ | ⟨x, len, cap, m, n, D, Pl, hcs, _, hl, hm, hz, _, hcell⟩
  · subst hcs
    exact ⟨_, [], rfl, none, 0, rfl, by simp, by simp, .inl rfl⟩
  · subst hcs
    have hzl : len ≤ m := by rw [hz]; split <;> omega
    have hce : Try.prog.cellsOf 43 = 7 := by kernel_rfl
    rw [hce] at hcell
    have hall : ∀ j, ∃ (y : Ev), j < len → (∀ i (hi : i < 7), W.cell? (x.add (7 * j + i)) = some ((c7 y)[i]'hi)) ∧ Reads W y.kv y.k ∧ AgOk y.a := by
      intro j
      by_cases hj : j < len
      · obtain ⟨cs', hc1, hc2⟩ := hcell j (by omega)
        obtain ⟨_, hl7, hq⟩ := World.cells?_some hc1
        obtain ⟨c0, c1, c2, c3, c4, c5, c6, rfl⟩ := seven_of hl7
        obtain ⟨kv, k, a, e, hr, ha⟩ := openE' hc2
        refine ⟨⟨kv, k, a⟩, fun _ => ⟨fun i hi => ?_, hr, ha⟩⟩
        have h1 := hq i hi
        rw [e, List.getElem?_eq_getElem (show i < (c7 ⟨kv, k, a⟩).length from hi)] at h1
        have ea : (x.add (j * 7)).add i = x.add (7 * j + i) := by
          obtain ⟨xb, xo, xs⟩ := x
          by_cases h1 : j = 0
          · subst h1; simp [Addr.add]
          · have h2 : j * 7 ≠ 0 := by omega
            have h3 : 7 * j + i ≠ 0 := by omega
            by_cases h4 : i = 0
            · subst h4
              have h5 : j * 7 = 7 * j + 0 := by omega
              rw [h5]
              simp [Addr.add]
            · have h5 : xo + j * 7 + i = xo + (7 * j + i) := by omega
              unfold Addr.add
              rw [if_neg h2, if_neg h4, if_neg h3]
              simp only [h5]
        rw [ea] at h1
        exact h1
      · exact ⟨⟨.bool false, [], agZ⟩, fun h => absurd h hj⟩
    obtain ⟨ys, hys⟩ := Classical.axiomOfChoice hall
    rcases Nat.eq_zero_or_pos len with h0 | h0
    · subst h0
      exact ⟨_, [], rfl, _, cap, rfl, by simp, hm, .inl rfl⟩
    · have k0 := (hys 0 h0).1 0 (by decide)
      have e0 : x.add (7 * 0 + 0) = x := by simp [Addr.add]
      rw [e0] at k0
      obtain ⟨hb, hs⟩ := cell_block k0
      obtain ⟨b, off, spot⟩ := x
      simp only at hb hs
      subst hs
      refine ⟨_, (List.range len).map fun j => evE (ys j), rfl, _, cap, by simp, by simpa using hl, hm, .inr ⟨b, off, rfl, hb, fun j hj => ?_⟩⟩
      simp at hj
      obtain ⟨g1, g2, g3⟩ := hys j hj
      have ej : ((List.range len).map fun j => evE (ys j))[j]'(by simpa using hj) = evE (ys j) := by simp
      rw [ej]
      refine ⟨(ys j).kv, fun i hi => ?_, g2, g3.cn⟩
      have ea : (⟨b, off, none⟩ : Addr).add (7 * j + i) = ⟨b, off + (7 * j + i), none⟩ := by simp [Addr.add]
      have := g1 i hi
      rw [ea] at this
      exact this
theorem EReads.form {w : World} {v : Value} {L : List En} (h : EReads w v L) : ∃ a cap, v = .slice a L.length cap ∧ L.length ≤ cap ∧ cap ≤ maxLen := by
  obtain ⟨a, cap, rfl, h1, h2, _⟩ := h
  exact ⟨a, cap, rfl, h1, h2⟩
theorem EReads.ok {w : World} {v : Value} {L : List En} (h : EReads w v L) : ∀ x ∈ L, CnOk x.2 := by
  obtain ⟨a, cap, rfl, h1, h2, h3⟩ := h
  intro x hx
  rcases h3 with rfl | ⟨b, off, _, _, h6⟩
  · cases hx
  · obtain ⟨j, hj, rfl⟩ := List.getElem_of_mem hx
    obtain ⟨_, _, _, h⟩ := h6 j hj
    exact h
theorem EOwn.reads {w : World} {base : Nat} {v : Value} {xs : List Ev} (h : EOwn w base v xs) (hk : ∀ x ∈ xs, CnOk x.a) : EReads w v (xs.map evE) := by
  obtain ⟨a, cap, rfl, h1, h2, h3⟩ := h.at
  refine ⟨a, cap, by simp, by simpa using h1, h2, ?_⟩
  rcases Nat.eq_zero_or_pos xs.length with h0 | h0
  · exact .inl (by rw [List.length_eq_zero_iff.1 h0]; rfl)
  · obtain ⟨g, rfl, _, h5, h6⟩ := h3 h0
    refine .inr ⟨g, 0, rfl, h5, fun j hj => ?_⟩
    simp at hj
    have e : (xs.map evE)[j]'(by simpa using hj) = evE xs[j] := by simp
    rw [e]
    refine ⟨xs[j].kv, fun i hi => ?_, (h.2 _ (List.getElem_mem hj)).reads, hk _ (List.getElem_mem hj)⟩
    rw [show 0 + (7 * j + i) = 7 * j + i by omega]
    exact (h6 j hj i hi).1
/-- A slice reads these rows. -/
def RReads (w : World) (v : Value) (rs : List (List En)) : Prop :=
  ∃ a cap, v = .slice a rs.length cap ∧ rs.length ≤ cap ∧ cap ≤ maxLen ∧ (rs = [] ∨ ∃ b off, a = some ⟨b, off, none⟩ ∧ b < w.heap.size ∧ ∀ j (hj : j < rs.length), ∃ ev, w.cell? ⟨b, off + j, none⟩ = some ev ∧ EReads w ev rs[j])
theorem RReads.below {w w' : World} {v : Value} {rs : List (List En)} (h : RReads w v rs) (hb : Below w.heap.size w w') : RReads w' v rs := by
  obtain ⟨a, cap, rfl, h1, h2, h3⟩ := h
  refine ⟨a, cap, rfl, h1, h2, ?_⟩
  rcases h3 with h3 | ⟨b, off, h4, h5, h6⟩
  · exact .inl h3
  · refine .inr ⟨b, off, h4, Nat.lt_of_lt_of_le h5 hb.size, fun j hj => ?_⟩
    obtain ⟨ev, g1, g2⟩ := h6 j hj
    exact ⟨ev, (hb.cell (p := ⟨b, off + j, none⟩) h5).trans g1, g2.below hb⟩
end Go.Proofs.Ytiamjcgfmfbnoaa
