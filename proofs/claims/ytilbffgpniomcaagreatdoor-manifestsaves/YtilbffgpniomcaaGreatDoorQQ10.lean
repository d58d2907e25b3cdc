/- MFk MF1 MF2, joined. -/
import Derived.Test.YtilbffgpniomcaaGreatDoorQQ1
import Derived.Test.YtilbffgpniomcaaGreatDoorQQ9
import Derived.Shelf.Abstract
/- manifest: place. -/
namespace Go.Proofs.YtilbffgpniomcaaGreatDoor
open Go.RowKit Go.Shelf

/-- What a function value says of runs, as long as what lay in w lies there. -/
def Says13 (w : World) (g : Nat) (lb : Array Value) (p : Ru → Bool) : Prop :=
  ∀ (W : World) (r : Ru), Below w.heap.size w W → Calls Tryz.prog g (#[.agg #[.int .i64 r.f, .int .i64 r.l, .int .i64 r.c]] ++ lb) W fun e w' => e = .returned (.bool (p r)) ∧ Below W.heap.size W w'
set_option maxRecDepth 100000 in
theorem indexF13_any (p : Ru → Bool) (g : Nat) (lv : Value) (eg : ∀ args w, (callFunc g args).run Tryz.prog w = .ok (.enter g args) w) (v : Value) (L : List Ru) (w : World) (hR : RuR w v L) (hp : Says13 w g #[lv] p) :
    Calls Tryz.prog 104 #[v, .func (.func g) #[] #[lv]] w fun e w' => Below w.heap.size w w' ∧ ((∃ k, ∃ hk : k < L.length, e = .returned (.int .i64 (k : Int)) ∧ p L[k] = true ∧ ∀ j (hj : j < L.length), j < k → p L[j] = false) ∨ (e = .returned (.int .i64 (-1)) ∧ ∀ r ∈ L, p r = false)) := by
  have HR : Hid (RuR w v L) := hR
  have HS : Hid (Says13 w g #[lv] p) := hp
  obtain ⟨a, cap, rfl, hl2⟩ := hR.form
  clear hR hp
  unfold maxLen at hl2
  go_enter Tryz.func104, Tryz.ntmps104
  go_wp2_with fail
  go_loopw [8] (fun i wr => ∃ k : Nat, k ≤ L.length ∧ i = .int .i64 (k : Int) ∧ Hid (∀ j (hj : j < L.length), j < k → p L[j] = false) ∧ Hid (Below w.heap.size w wr)) (fun i _ => L.length - (intOf i).toNat)
  case atStart => exact ⟨0, by omega, rfl, fun j hj h => absurd h (by omega), Below.refl _ _⟩
  case round =>
    obtain ⟨k, hk, rfl, HP, HB⟩ := hrel
    by_cases hlt : k < L.length
    · obtain ⟨r, Hr⟩ := hid_ex L[k]
      obtain ⟨b, off, rfl, hb, c0, c1, c2⟩ := (HR.out.below HB.out).at hlt Hr.out
      go_wp2_with fail
      refine (HS.out _ r HB.out).mono ?_
      rintro e w' ⟨rfl, hb'⟩
      have HBn : Hid (Below w.heap.size w w') := HB.out.trans (hb'.mono HB.out.size)
      clear hb' c0 c1 c2
      obtain ⟨q, Hq⟩ := hid_ex (p r)
      rw [← Hq.out]
      cases q with
      | true =>
        have HT : Hid (p L[k] = true) := by unfold Hid; rw [← Hr.out, ← Hq.out]
        go_wp2_with fail
        go_ret
        exact ⟨HBn.out, .inl ⟨k, hlt, rfl, HT.out, HP.out⟩⟩
      | false =>
        have HN : Hid (∀ j (hj : j < L.length), j < k + 1 → p L[j] = false) := by
          intro j hj hjk
          rcases Nat.lt_or_ge j k with h9 | h9
          · exact HP.out j hj h9
          · obtain rfl : j = k := by omega
            rw [← Hr.out, ← Hq.out]
        go_wp2_with fail
        go_roundw
        case rel => exact ⟨k + 1, by omega, by go_num, HN.out, HBn.out⟩
        case measure => simp [intOf]; omega
    · have HN : Hid (∀ r ∈ L, p r = false) := by
        intro r hr
        obtain ⟨j, hj, rfl⟩ := List.getElem_of_mem hr
        exact HP.out j hj (by omega)
      go_wp2_with fail
      go_ret
      exact ⟨HB.out, .inr ⟨rfl, HN.out⟩⟩
theorem eg_place13 : ∀ args w, (callFunc 105 args).run Tryz.prog w = .ok (.enter 105 args) w := enters_of Tryz.func105 (by kernel_rfl) rfl
def isF13 (f : Int) (r : Ru) : Bool := decide (r.f = f)
set_option maxRecDepth 100000 in
theorem place13_says (f : Int) (B : Nat) (w : World) (hB : B < w.heap.size) (hc : w.cell? ⟨B, 0, none⟩ = some (.int .i64 f)) : Says13 w 105 #[.pointer (some ⟨B, 0, none⟩)] (isF13 f) := by
  intro W r hb
  have hcW : W.cell? ⟨B, 0, none⟩ = some (.int .i64 f) := (hb.cell (p := ⟨B, 0, none⟩) hB).trans hc
  have hBW : B < W.heap.size := Nat.lt_of_lt_of_le hB hb.size
  show Calls Tryz.prog 105 #[.agg #[.int .i64 r.f, .int .i64 r.l, .int .i64 r.c], .pointer (some ⟨B, 0, none⟩)] W _
  clear hb hc
  obtain ⟨q, Hq⟩ := hid_ex (isF13 f r)
  rw [← Hq.out]
  have hne : B ≠ W.heap.size := by omega
  by_cases hl : r.f = f
  · have hbe : (r.f == f) = true := by simpa using hl
    have HV : Hid (q = true) := by
      unfold Hid
      rw [Hq.out]
      exact decide_eq_true hl
    clear hl
    go_enter Tryz.func105, Tryz.ntmps105
    go_wp2_with fail
    go_ret
    refine ⟨?_, (Below.refl _ _).alloc (Nat.le_refl _) _⟩
    rw [HV.out]
    rfl
  · have hbe : (r.f == f) = false := by simpa using hl
    have HV : Hid (q = false) := by
      unfold Hid
      rw [Hq.out]
      exact decide_eq_false hl
    clear hl
    go_enter Tryz.func105, Tryz.ntmps105
    go_wp2_with fail
    go_ret
    refine ⟨?_, (Below.refl _ _).alloc (Nat.le_refl _) _⟩
    rw [HV.out]
    rfl
/-- What place answers. -/
def PlP (L : List Ru) (f : Int) (e : Ending) : Prop := (∃ k, ∃ hk : k < L.length, e = .returned (.int .i64 (k : Int)) ∧ L[k].f = f ∧ ∀ j (hj : j < L.length), j < k → L[j].f ≠ f) ∨ (e = .returned (.int .i64 (-1)) ∧ ∀ r ∈ L, r.f ≠ f)
set_option maxRecDepth 100000 in
theorem place13_any (v : Value) (L : List Ru) (f : Int) (w : World) (hR : RuR w v L) : Calls Tryz.prog 85 #[v, .int .i64 f] w fun e w' => Below w.heap.size w w' ∧ PlP L f e := by
  have HR : Hid (RuR w v L) := hR
  obtain ⟨a, cap, rfl, hl2⟩ := hR.form
  clear hR
  have hb : Below w.heap.size w (w.alloc (.cells #[.int .i64 f] 3)) := (Below.refl _ _).alloc (Nat.le_refl _) _
  have HB : Hid _ := hb
  go_enter Tryz.func85, Tryz.ntmps85
  go_wp2_with fail
  refine (indexF13_any (isF13 f) _ _ eg_place13 _ L _ (HR.out.below HB.out) (place13_says f w.heap.size _ (by simp) (by simp))).mono ?_
  rintro e w' ⟨hb', hp⟩
  have HB' : Hid (Below w.heap.size w w') := HB.out.trans (hb'.mono HB.out.size)
  have HP : Hid (PlP L f e) := by
    rcases hp with ⟨k, hk, h1, h2, h3⟩ | ⟨h1, h2⟩
    · exact .inl ⟨k, hk, h1, by simpa [isF13] using h2, fun j hj hjk => by simpa [isF13] using h3 j hj hjk⟩
    · exact .inr ⟨h1, fun r hr => by simpa [isF13] using h2 r hr⟩
  clear hb' hb
  rcases hp with ⟨k, hk, rfl, _, _⟩ | ⟨rfl, _⟩
  · go_wp2_with fail
    go_ret
    exact ⟨HB'.out, HP.out⟩
  · go_wp2_with fail
    go_ret
    exact ⟨HB'.out, HP.out⟩
end Go.Proofs.YtilbffgpniomcaaGreatDoor

/- manifest: states, plainly: which are right, by neighbours and by pairs. -/
namespace Go.Proofs.YtilbffgpniomcaaGreatDoor
open Go.RowKit

/-- A state. -/
structure St where
  ru : List Ru
  lo : Int
  ne : Int
  ma : Int
/-- Does a run stand ahead of another one? -/
def ahd (a b : Ru) : Prop := a.l < b.l ∨ (a.l = b.l ∧ b.f < a.f)
instance (a b : Ru) : Decidable (ahd a b) := by unfold ahd; infer_instance
theorem ahd_trans {a b c : Ru} (h1 : ahd a b) (h2 : ahd b c) : ahd a c := by unfold ahd at *; omega
theorem ahd_irrefl (a : Ru) : ¬ ahd a a := by unfold ahd; omega
theorem ahd_total {a b : Ru} (h : ¬ ahd a b) (h2 : ¬ ahd b a) : a.l = b.l ∧ a.f = b.f := by unfold ahd at *; omega
/-- May a run be, with files below next? -/
def fitR (r : Ru) (ne : Int) : Prop := 0 ≤ r.l ∧ r.l < 4 ∧ 1 ≤ r.f ∧ r.f < ne ∧ 1 ≤ r.c ∧ r.c ≤ 4096
instance (r : Ru) (ne : Int) : Decidable (fitR r ne) := by unfold fitR; infer_instance
/-- What two runs of a right state are to each other. -/
def prR (a b : Ru) : Prop := ahd a b ∧ a.f ≠ b.f ∧ ¬ (a.l = b.l ∧ 0 < a.l)
instance (a b : Ru) : Decidable (prR a b) := by unfold prR; infer_instance
def okRs (l : List Ru) (ne : Int) : Prop := l.length ≤ 64 ∧ (∀ r ∈ l, fitR r ne) ∧ l.Pairwise prR
def okSt (s : St) : Prop := 1 ≤ s.lo ∧ s.lo < s.ne ∧ s.ne ≤ 1099511627776 ∧ 0 ≤ s.ma ∧ s.ma ≤ 1099511627776 ∧ okRs s.ru s.ne
/-- By neighbours: what the program asks of a run at its place, the one ahead of it given. -/
def nbR (l : List Ru) (i : Nat) (r : Ru) : Prop := (∀ a ∈ l.take i, a.f ≠ r.f) ∧ ∀ a, 0 < i → l[i - 1]? = some a → ahd a r ∧ ¬ (0 < r.l ∧ a.l = r.l)
/-- Neighbours are enough. -/
theorem nb_pairs {l : List Ru} (h : ∀ i (hi : i < l.length), nbR l i l[i]) : l.Pairwise prR := by
  rw [List.pairwise_iff_getElem]
  have hah : ∀ (d i : Nat) (hj : i + 1 + d < l.length), ahd (l[i]'(by omega)) (l[i + 1 + d]'hj) ∧ ¬ ((l[i]'(by omega)).l = (l[i + 1 + d]'hj).l ∧ 0 < (l[i]'(by omega)).l) := by
    intro d
    induction d with
    | zero =>
      intro i hj
      obtain ⟨_, h2⟩ := h (i + 1) (by omega)
      obtain ⟨g1, g2⟩ := h2 (l[i]'(by omega)) (by omega) (by simp [List.getElem?_eq_getElem (show i < l.length by omega)])
      refine ⟨by simpa using g1, fun z => g2 ?_⟩
      simp only [Nat.add_zero] at z
      exact ⟨by rw [← z.1]; exact z.2, z.1⟩
    | succ d ih =>
      intro i hj
      obtain ⟨a1, a2⟩ := ih i (by omega)
      obtain ⟨_, h2⟩ := h (i + 1 + (d + 1)) hj
      obtain ⟨g1, g2⟩ := h2 (l[i + 1 + d]'(by omega)) (by omega) (by
        have : i + 1 + (d + 1) - 1 = i + 1 + d := by omega
        rw [this, List.getElem?_eq_getElem (by omega)])
      refine ⟨ahd_trans a1 g1, fun z => ?_⟩
      have b1 := a1
      have b2 := g1
      unfold ahd at b1 b2
      have e1 : (l[i]'(by omega)).l = (l[i + 1 + d]'(by omega)).l := by omega
      exact a2 ⟨e1, z.2⟩
  intro i j hi hj hij
  obtain ⟨d, rfl⟩ : ∃ d, j = i + 1 + d := ⟨j - (i + 1), by omega⟩
  obtain ⟨a1, a2⟩ := hah d i hj
  refine ⟨a1, ?_, a2⟩
  exact (h (i + 1 + d) hj).1 l[i] (List.mem_take_iff_getElem.2 ⟨i, by omega, rfl⟩)
/-- And pairs tell of neighbours. -/
theorem pairs_nb {l : List Ru} (h : l.Pairwise prR) (i : Nat) (hi : i < l.length) : nbR l i l[i] := by
  rw [List.pairwise_iff_getElem] at h
  refine ⟨fun a ha => ?_, fun a h0 ha => ?_⟩
  · obtain ⟨k, hk, rfl⟩ := List.mem_take_iff_getElem.1 ha
    exact (h k i (by omega) hi (by omega)).2.1
  · have hl : i - 1 < l.length := by omega
    rw [List.getElem?_eq_getElem hl] at ha
    simp only [Option.some.injEq] at ha
    subst ha
    obtain ⟨q1, q2, q3⟩ := h (i - 1) i hl hi (by omega)
    exact ⟨q1, fun z => q3 ⟨z.2, by rw [z.2]; exact z.1⟩⟩
/-- Two rows in their order with the same runs are one. -/
theorem sorted_unique : ∀ {a b : List Ru}, a.Pairwise ahd → b.Pairwise ahd → a.Perm b → a = b
  | [], b, _, _, h => (List.nil_perm.1 h).symm
  | x :: a, [], _, _, h => by have := h.length_eq; simp at this
  | x :: a, y :: b, h1, h2, h => by
    rw [List.pairwise_cons] at h1 h2
    have hx : x ∈ y :: b := h.subset (List.mem_cons_self ..)
    have hy : y ∈ x :: a := h.symm.subset (List.mem_cons_self ..)
    have e : x = y := by
      rcases List.mem_cons.1 hx with q | q
      · exact q
      · rcases List.mem_cons.1 hy with z | z
        · exact z.symm
        · exact absurd (ahd_trans (h2.1 x q) (h1.1 y z)) (ahd_irrefl y)
    subst e
    rw [sorted_unique h1.2 h2.2 (List.Perm.cons_inv h)]
/-- A run goes; none: there is none of that file. -/
def drop1 (l : List Ru) (f : Int) : Option (List Ru) := if l.any (fun r => decide (r.f = f)) = true then some (l.filter fun r => !decide (r.f = f)) else none
def dropF : List Ru → List Int → Option (List Ru)
  | l, [] => some l
  | l, f :: fs => match drop1 l f with
    | none => none
    | some l' => dropF l' fs
/-- Files that are unlike. -/
def unl (l : List Ru) : Prop := l.Pairwise fun a b => a.f ≠ b.f
theorem unl_of {l : List Ru} (h : l.Pairwise prR) : unl l := h.imp fun h => h.2.1
theorem unl_filter {l : List Ru} (h : unl l) (p : Ru → Bool) : unl (l.filter p) := List.Pairwise.filter p h
/-- Where files are unlike, to take the first run of a file away is to take all of them away. -/
theorem drop_at : ∀ {l : List Ru} {i : Nat} (hi : i < l.length), unl l → (∀ j (hj : j < i), (l[j]'(by omega)).f ≠ (l[i]).f) → l.take i ++ l.drop (i + 1) = l.filter fun r => !decide (r.f = (l[i]).f)
  | [], i, hi, _, _ => by simp at hi
  | a :: l, 0, _, h, _ => by
    unfold unl at h
    rw [List.pairwise_cons] at h
    simp only [List.take_zero, List.nil_append, List.drop_succ_cons, List.drop_zero, List.getElem_cons_zero, List.filter_cons, decide_true, Bool.not_true]
    rw [if_neg (by simp)]
    symm
    rw [List.filter_eq_self]
    intro r hr
    have := h.1 r hr
    simp only [Bool.not_eq_true', decide_eq_false_iff_not]
    exact fun e => this e.symm
  | a :: l, i + 1, hi, h, hn => by
    unfold unl at h
    rw [List.pairwise_cons] at h
    have h0 := hn 0 (by omega)
    simp only [List.getElem_cons_zero, List.getElem_cons_succ] at h0
    have ih := drop_at (l := l) (i := i) (by simpa using hi) h.2 fun j hj => by
      have := hn (j + 1) (by omega)
      simpa using this
    simp only [List.take_succ_cons, List.cons_append, List.drop_succ_cons, List.getElem_cons_succ, List.filter_cons]
    rw [if_pos (by simpa using h0), ih]
end Go.Proofs.YtilbffgpniomcaaGreatDoor

/- manifest: what an edit makes of a state, plainly. -/
namespace Go.Proofs.YtilbffgpniomcaaGreatDoor
open Go.RowKit

/-- A run at its place. -/
def putR (r : Ru) : List Ru → List Ru
  | [] => [r]
  | x :: l => if ahd x r then x :: putR r l else r :: x :: l
theorem putR_perm (r : Ru) : ∀ l : List Ru, (putR r l).Perm (r :: l)
  | [] => List.Perm.refl _
  | x :: l => by
    unfold putR
    split
    · exact ((putR_perm r l).cons x).trans (List.Perm.swap r x l)
    · exact List.Perm.refl _
theorem putAll_perm : ∀ (a l : List Ru), (a.foldl (fun l r => putR r l) l).Perm (l ++ a)
  | [], l => by simp
  | r :: a, l => by
    rw [List.foldl_cons]
    refine (putAll_perm a _).trans ?_
    refine ((putR_perm r l).append_right a).trans ?_
    rw [List.cons_append]
    exact List.perm_middle.symm
/-- Rows that are put in one by one are in order, but where two are of one level and one file. -/
def wk (l : List Ru) : Prop := l.Pairwise fun a b => ¬ ahd b a
theorem not_ahd_trans {a b c : Ru} (h1 : ¬ ahd b a) (h2 : ¬ ahd c b) : ¬ ahd c a := by unfold ahd at *; omega
theorem putR_wk {r : Ru} : ∀ {l : List Ru}, wk l → wk (putR r l)
  | [], _ => by unfold putR wk; simp
  | x :: l, h => by
    unfold wk at h
    rw [List.pairwise_cons] at h
    unfold putR
    split
    · rename_i hx
      show List.Pairwise _ (x :: putR r l)
      rw [List.pairwise_cons]
      refine ⟨fun y hy => ?_, putR_wk h.2⟩
      rcases List.mem_cons.1 ((putR_perm r l).subset hy) with rfl | hy
      · unfold ahd at *; omega
      · exact h.1 y hy
    · rename_i hx
      show List.Pairwise _ (r :: x :: l)
      rw [List.pairwise_cons, List.pairwise_cons]
      refine ⟨fun y hy => ?_, h⟩
      rcases List.mem_cons.1 hy with rfl | hy
      · exact hx
      · exact not_ahd_trans hx (h.1 y hy)
theorem putAll_wk : ∀ {a l : List Ru}, wk l → wk (a.foldl (fun l r => putR r l) l)
  | [], _, h => h
  | r :: a, l, h => by rw [List.foldl_cons]; exact putAll_wk (putR_wk h)
/-- Two rows in weak order with the same runs: where the one is right, they are one. -/
theorem wk_right {a b : List Ru} (ha : wk a) (hb : b.Pairwise ahd) (h : a.Perm b) : a = b := by
  have hd : b.Pairwise fun x y => x ≠ y := hb.imp fun q e => by subst e; exact ahd_irrefl _ q
  have hkey : ∀ x ∈ b, ∀ y ∈ b, x.l = y.l → x.f = y.f → x = y := fun x hx y hy e1 e2 => by
    obtain ⟨i, hi, rfl⟩ := List.getElem_of_mem hx
    obtain ⟨j, hj, rfl⟩ := List.getElem_of_mem hy
    rw [List.pairwise_iff_getElem] at hb
    rcases Nat.lt_trichotomy i j with q | q | q
    · have := hb i j hi hj q; unfold ahd at this; omega
    · subst q; rfl
    · have := hb j i hj hi q; unfold ahd at this; omega
  have hna : a.Pairwise fun x y => x ≠ y := (h.pairwise_iff (fun {x y} (q : x ≠ y) => q.symm)).2 hd
  refine sorted_unique ?_ hb h
  have hboth : a.Pairwise fun x y => ¬ ahd y x ∧ x ≠ y := ha.and hna
  refine hboth.imp_of_mem fun {x y} hx hy q => ?_
  by_cases c : ahd x y
  · exact c
  · obtain ⟨e1, e2⟩ := ahd_total c q.1
    exact absurd (hkey x (h.subset hx) y (h.subset hy) e1 e2) q.2
theorem drop1_len {l l' : List Ru} {f : Int} (h : drop1 l f = some l') : l'.length + 1 ≤ l.length := by
  unfold drop1 at h
  split at h
  · rename_i ha
    simp only [Option.some.injEq] at h
    subst h
    rw [List.any_eq_true] at ha
    obtain ⟨r, hr, hf⟩ := ha
    have := List.length_filter_lt_length_iff_exists (p := fun r : Ru => !decide (r.f = f)) |>.2 ⟨r, hr, by simpa using hf⟩
    exact this
  · cases h
theorem dropF_len : ∀ {fs : List Int} {l l' : List Ru}, dropF l fs = some l' → l'.length + fs.length ≤ l.length
  | [], l, l', h => by simp only [dropF, Option.some.injEq] at h; subst h; simp
  | f :: fs, l, l', h => by
    rw [dropF] at h
    cases hd : drop1 l f with
    | none => rw [hd] at h; cases h
    | some m =>
      rw [hd] at h
      have a := drop1_len hd
      have b := dropF_len h
      rw [List.length_cons]; omega
theorem dropF_unl : ∀ {fs : List Int} {l l' : List Ru}, dropF l fs = some l' → unl l → unl l'
  | [], l, l', h, hu => by simp only [dropF, Option.some.injEq] at h; subst h; exact hu
  | f :: fs, l, l', h, hu => by
    rw [dropF] at h
    cases hd : drop1 l f with
    | none => rw [hd] at h; cases h
    | some m =>
      rw [hd] at h
      refine dropF_unl h ?_
      unfold drop1 at hd
      split at hd
      · simp only [Option.some.injEq] at hd
        subst hd
        exact unl_filter hu _
      · cases hd
theorem dropF_ahd : ∀ {fs : List Int} {l l' : List Ru}, dropF l fs = some l' → l.Pairwise ahd → l'.Pairwise ahd
  | [], l, l', h, hu => by simp only [dropF, Option.some.injEq] at h; subst h; exact hu
  | f :: fs, l, l', h, hu => by
    rw [dropF] at h
    cases hd : drop1 l f with
    | none => rw [hd] at h; cases h
    | some m =>
      rw [hd] at h
      refine dropF_ahd h ?_
      unfold drop1 at hd
      split at hd
      · simp only [Option.some.injEq] at hd
        subst hd
        exact List.Pairwise.filter _ hu
      · cases hd
theorem ahd_wk {l : List Ru} (h : l.Pairwise ahd) : wk l := h.imp fun {a b} q z => by unfold ahd at *; omega
/-- A row in weak order that has the runs of 'put in one by one': it is right if and only if that is, and then it is that. -/
theorem sorted_put {l a r : List Ru} (hl : wk l) (hr : wk r) (hp : r.Perm (l ++ a)) (ne : Int) : (okRs r ne ↔ okRs (a.foldl (fun l r => putR r l) l) ne) ∧ (okRs r ne → r = a.foldl (fun l r => putR r l) l) := by
  have hq : r.Perm (a.foldl (fun l r => putR r l) l) := hp.trans (putAll_perm a l).symm
  have hw := putAll_wk (a := a) hl
  have f1 : okRs r ne → r = a.foldl (fun l r => putR r l) l := fun h => (wk_right hw (h.2.2.imp fun q => q.1) hq.symm).symm
  have f2 : okRs (a.foldl (fun l r => putR r l) l) ne → r = a.foldl (fun l r => putR r l) l := fun h => wk_right hr (h.2.2.imp fun q => q.1) hq
  exact ⟨⟨fun h => by rw [← f1 h]; exact h, fun h => by rw [f2 h]; exact h⟩, f1⟩
end Go.Proofs.YtilbffgpniomcaaGreatDoor
