/- SimfsMoves, plainly. -/
import Derived.Test.YteajfbgodfpioaaSFX
namespace Go.Proofs.Yteajfbgodfpioaa
open Go.RowKit Go.Maps Go.Sort

theorem look_cons (s : List UInt8) (y : List UInt8 × Nat) (r : List (List UInt8 × Nat)) : sfLook s (y :: r) = if y.1 = s then some y.2 else sfLook s r := by
  unfold sfLook
  rw [List.find?_cons]
  by_cases e : y.1 = s
  · rw [if_pos e, show (y.1 == s) = true by simpa using e]; rfl
  · rw [if_neg e, show (y.1 == s) = false by simpa using e]
theorem look_del (s t : List UInt8) : ∀ l : List (List UInt8 × Nat), sfLook s (sfDel t l) = if s = t then none else sfLook s l
  | [] => by simp [sfDel, sfLook]
  | y :: r => by
    have ih := look_del s t r
    by_cases e : y.1 = t
    · have : sfDel t (y :: r) = sfDel t r := by unfold sfDel; rw [List.filter_cons, show (y.1 == t) = true by simpa using e]; rfl
      rw [this, ih, look_cons]
      split
      · rfl
      · rename_i h
        rw [if_neg (fun z => h (by rw [← z, e]))]
    · have : sfDel t (y :: r) = y :: sfDel t r := by unfold sfDel; rw [List.filter_cons, show (y.1 == t) = false by simpa using e]; rfl
      rw [this, look_cons, look_cons, ih]
      by_cases e2 : y.1 = s
      · rw [if_pos e2, if_pos e2]
        split
        · rename_i h; exact absurd (e2.trans h) e
        · rfl
      · rw [if_neg e2, if_neg e2]
theorem look_ins (s : List UInt8) (x : List UInt8 × Nat) : ∀ {l : List (List UInt8 × Nat)}, (∀ p ∈ l, p.1 ≠ x.1) → sfLook s (sfIns x l) = if x.1 = s then some x.2 else sfLook s l
  | [], _ => by rw [sfIns, look_cons]
  | y :: r, h => by
    have ih := look_ins s x (l := r) (fun p hp => h p (by simp [hp]))
    unfold sfIns
    split
    · rw [look_cons]
    · rw [look_cons, look_cons, ih]
      by_cases e : y.1 = s
      · rw [if_pos e, if_pos e, if_neg (fun z => h y (by simp) (e.trans z.symm))]
      · rw [if_neg e, if_neg e]
theorem look_put (s : List UInt8) (x : List UInt8 × Nat) (l : List (List UInt8 × Nat)) : sfLook s (sfPut x l) = if x.1 = s then some x.2 else sfLook s l := by
  unfold sfPut
  rw [look_ins s x (fun p hp => by have := (List.mem_filter.1 hp).2; simpa using this), look_del]
  by_cases e : x.1 = s
  · rw [if_pos e, if_pos e]
  · rw [if_neg e, if_neg e, if_neg (fun z => e z.symm)]
theorem moves_pure {s : SfS} {a b : List UInt8} {i : Nat} (hw : SfWf s) (hf : s.fault = 0) (hl : sfLook a s.dir = some i) (hab : a ≠ b) (hb : sfName b = true) :
    ∃ S2, sfSync s a = (0, s.setF i ((s.fl i).1, (s.fl i).1.length)) ∧ sfSyncDir (s.setF i ((s.fl i).1, (s.fl i).1.length)) = (0, S2) ∧ S2.pend.length = 0 ∧ sfFe (sfLook a S2.dir) = 0 ∧ sfRead S2 a = (s.fl i).1 ∧ (sfRename S2 a b).1 = 0 ∧
      sfFe (sfLook b (sfRename S2 a b).2.dir) = 0 ∧ sfRead (sfRename S2 a b).2 b = (s.fl i).1 ∧ sfFe (sfLook a (sfRename S2 a b).2.dir) = 4 ∧
      (∀ c, c ≠ a → c ≠ b → sfLook c (sfRename S2 a b).2.dir = sfLook c s.dir ∧ sfRead (sfRename S2 a b).2 c = sfRead s c) ∧
      ∀ n ks, (n < 1 → sfFe (sfLook a (sfCrash (sfRename S2 a b).2 n ks).dir) = 0 ∧ sfRead (sfCrash (sfRename S2 a b).2 n ks) a = (s.fl i).1) ∧
        (1 ≤ n → sfFe (sfLook b (sfCrash (sfRename S2 a b).2 n ks).dir) = 0 ∧ sfRead (sfCrash (sfRename S2 a b).2 n ks) b = (s.fl i).1 ∧ sfFe (sfLook a (sfCrash (sfRename S2 a b).2 n ks).dir) = 4) := by
  have hi := (hw.di _ (look_mem hl)).1
  have hw1 : SfWf (s.setF i ((s.fl i).1, (s.fl i).1.length)) := hw.setF ⟨Nat.le_refl _, (hw.fl32 i).1⟩
  have hsd := syncDir_some (s := s.setF i ((s.fl i).1, (s.fl i).1.length)) hf hw1
  obtain ⟨S2, hS2⟩ : ∃ S2, S2 = ({ s.setF i ((s.fl i).1, (s.fl i).1.length) with old := (s.setF i ((s.fl i).1, (s.fl i).1.length)).dir, pend := [] } : SfS) := ⟨_, rfl⟩
  have hf2 : S2.fault = 0 := by rw [hS2]; exact hf
  have hd2 : S2.dir = s.dir := by rw [hS2]; rfl
  have ho2 : S2.old = s.dir := by rw [hS2]; rfl
  have hp2 : S2.pend = [] := by rw [hS2]
  have hfl : ∀ j, S2.fl j = if i = j then ((s.fl i).1, (s.fl i).1.length) else s.fl j := fun j => by
    have : S2.fl j = (s.setF i ((s.fl i).1, (s.fl i).1.length)).fl j := by rw [hS2]; rfl
    rw [this, fl_setF _ _ _ hi]
  have hfb : ∀ j, (S2.fl j).1 = (s.fl j).1 := fun j => by
    rw [hfl]
    split
    · rename_i e; rw [← e]
    · rfl
  have hl2 : sfLook a S2.dir = some i := by rw [hd2]; exact hl
  have hrn : sfRename S2 a b = (0, { S2 with dir := sfPut (b, i) (sfDel a s.dir), pend := [⟨a, b, some i⟩] }) := by
    unfold sfRename
    rw [if_neg (by rw [hb]; simp), hl2]
    simp only []
    unfold sfChange
    rw [plan_none hf2, if_pos rfl, hd2, hp2]
    rfl
  have lb : sfLook b (sfPut (b, i) (sfDel a s.dir)) = some i := by rw [look_put, if_pos rfl]
  have la : sfLook a (sfPut (b, i) (sfDel a s.dir)) = none := by rw [look_put, if_neg (fun z => hab z.symm), look_del, if_pos rfl]
  have lc : ∀ c, c ≠ a → c ≠ b → sfLook c (sfPut (b, i) (sfDel a s.dir)) = sfLook c s.dir := fun c h1 h2 => by rw [look_put, if_neg (fun z => h2 z.symm), look_del, if_neg h1]
  have hfull : fFull (S2.fls.getD i ([], 0)) := by
    have : S2.fls.getD i ([], 0) = S2.fl i := rfl
    rw [this, hfl, if_pos rfl]; rfl
  have hck : ∀ dir ks, ((sfCuts dir ks S2.fls).getD i ([], 0)).1 = (s.fl i).1 := fun dir ks => by
    rw [cuts_keep _ _ _ _ hfull]
    exact hfb i
  refine ⟨S2, sync_some hf hl, by rw [hsd, hS2], by rw [hp2]; rfl, by rw [hl2]; rfl, by unfold sfRead; rw [hl2]; exact hfb i, by rw [hrn], by rw [hrn]; show sfFe (sfLook b (sfPut (b, i) (sfDel a s.dir))) = 0; rw [lb]; rfl, ?_, by rw [hrn]; show sfFe (sfLook a (sfPut (b, i) (sfDel a s.dir))) = 4; rw [la]; rfl, fun c h1 h2 => ?_, fun n ks => ⟨fun hn => ?_, fun hn => ?_⟩⟩
  · rw [hrn]; unfold sfRead; show (match sfLook b (sfPut (b, i) (sfDel a s.dir)) with | none => [] | some i => (S2.fl i).1) = _; rw [lb]; exact hfb i
  · rw [hrn]
    refine ⟨lc c h1 h2, ?_⟩
    unfold sfRead
    show (match sfLook c (sfPut (b, i) (sfDel a s.dir)) with | none => [] | some i => (S2.fl i).1) = _
    rw [lc c h1 h2]
    cases sfLook c s.dir with
    | none => rfl
    | some j => exact hfb j
  · rw [hrn]
    have e0 : (max n 0).toNat = 0 := by omega
    have ed : (sfCrash ({ S2 with dir := sfPut (b, i) (sfDel a s.dir), pend := [⟨a, b, some i⟩] } : SfS) n ks).dir = s.dir := by
      show (([⟨a, b, some i⟩] : List SfA).take (max n 0).toNat).foldl sfDo S2.old = _
      rw [e0, ho2]; rfl
    have efl : (sfCrash ({ S2 with dir := sfPut (b, i) (sfDel a s.dir), pend := [⟨a, b, some i⟩] } : SfS) n ks).fls = sfCuts ((([⟨a, b, some i⟩] : List SfA).take (max n 0).toNat).foldl sfDo S2.old) ks S2.fls := rfl
    refine ⟨by rw [ed, hl]; rfl, ?_⟩
    unfold sfRead
    rw [ed, hl]
    show ((sfCrash ({ S2 with dir := sfPut (b, i) (sfDel a s.dir), pend := [⟨a, b, some i⟩] } : SfS) n ks).fls.getD i ([], 0)).1 = _
    rw [efl]
    exact hck _ _
  · rw [hrn]
    have e1 : (([⟨a, b, some i⟩] : List SfA).take (max n 0).toNat) = [⟨a, b, some i⟩] := List.take_of_length_le (by simp; omega)
    have ed : (sfCrash ({ S2 with dir := sfPut (b, i) (sfDel a s.dir), pend := [⟨a, b, some i⟩] } : SfS) n ks).dir = sfPut (b, i) (sfDel a s.dir) := by
      show (([⟨a, b, some i⟩] : List SfA).take (max n 0).toNat).foldl sfDo S2.old = _
      rw [e1, ho2]; rfl
    have efl : (sfCrash ({ S2 with dir := sfPut (b, i) (sfDel a s.dir), pend := [⟨a, b, some i⟩] } : SfS) n ks).fls = sfCuts ((([⟨a, b, some i⟩] : List SfA).take (max n 0).toNat).foldl sfDo S2.old) ks S2.fls := rfl
    refine ⟨by rw [ed, lb]; rfl, ?_, by rw [ed, la]; rfl⟩
    unfold sfRead
    rw [ed, lb]
    show ((sfCrash ({ S2 with dir := sfPut (b, i) (sfDel a s.dir), pend := [⟨a, b, some i⟩] } : SfS) n ks).fls.getD i ([], 0)).1 = _
    rw [efl]
    exact hck _ _
end Go.Proofs.Yteajfbgodfpioaa
