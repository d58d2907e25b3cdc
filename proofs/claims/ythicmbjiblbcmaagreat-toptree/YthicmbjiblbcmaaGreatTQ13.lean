/- MG19 CN G1 G2, joined. -/
import Derived.Test.YthicmbjiblbcmaaGreatTQ12
import Derived.Test.YthicmbjiblbcmaaGreatRows
import Derived.WalkKit
import Derived.WalkSpells
import Derived.WalkLawsBesides
import Derived.Below
/- What is known of a key in all rows together. -/
namespace Go.Proofs.YthicmbjiblbcmaaGreat

end Go.Proofs.YthicmbjiblbcmaaGreat

/- Entries by their keys: what comes of a list of them hangs neither on their order nor on how they are parted. -/
namespace Go.Proofs.YthicmbjiblbcmaaGreat

/-- What may be known: right, and nothing where it is of no facts. -/
structure Gd (a : Ag) : Prop where
  c : CnOk a
  r : rightB a = true
  z : a.c = 0 → a = agZ
theorem Gd.zero : Gd agZ := ⟨⟨by decide, by decide⟩, by decide, fun _ => rfl⟩
theorem Gd.of {a : Ag} (hc : CnOk a) (hr : rightB a = true) (h1 : -170141183460469231731687303715884105728 ≤ a.s) (h2 : a.s < 170141183460469231731687303715884105728) : Gd a := by
  refine ⟨hc, hr, fun h => ?_⟩
  obtain ⟨c, o, s, mn, mx⟩ := a
  unfold rightB at hr
  dsimp only at h hr h1 h2
  rw [if_pos h] at hr
  simp only [Bool.and_eq_true, Bool.not_eq_true', beq_iff_eq] at hr
  obtain ⟨⟨⟨⟨k1, k2⟩, k3⟩, k4⟩, k5⟩ := hr
  unfold hi at k2
  unfold lo at k3
  have hs : s = 0 := by omega
  unfold agZ
  rw [h, k1, hs, k4, k5]
theorem mrg_cnk {a b : Ag} (ha : CnOk a) (hb : CnOk b) : CnOk (mrg a b) := by
  unfold CnOk at *
  unfold mrg
  split
  · exact hb
  · split
    · exact ha
    · dsimp only; unfold cntF; split <;> omega
theorem mrg_rightB {a b : Ag} (ha : rightB a = true) (hb : rightB b = true) (ca : CnOk a) (cb : CnOk b) : rightB (mrg a b) = true := by
  unfold mrg
  by_cases h1 : a.c = 0
  · rw [if_pos h1]; exact hb
  · rw [if_neg h1]
    by_cases h2 : b.c = 0
    · rw [if_pos h2]; exact ha
    · rw [if_neg h2]
      obtain ⟨a1, a2⟩ := ca
      obtain ⟨b1, b2⟩ := cb
      unfold rightB at ha hb ⊢
      rw [if_neg h1] at ha
      rw [if_neg h2] at hb
      simp only [Bool.and_eq_true, decide_eq_true_eq, Bool.or_eq_true, Bool.not_eq_true', beq_iff_eq] at ha hb
      have hc : 0 < cntF a.c b.c := by unfold cntF; split <;> omega
      show (if cntF a.c b.c = 0 then _ else _) = true
      rw [if_neg (by omega)]
      simp only [Bool.and_eq_true, decide_eq_true_eq, Bool.or_eq_true, Bool.not_eq_true', beq_iff_eq]
      refine ⟨by unfold minF maxF; split <;> split <;> omega, ?_⟩
      by_cases h : 18446744073709551616 ≤ a.c + b.c
      · right; unfold cntF; rw [if_neg (by omega)]
      · have hov : ovF a.c b.c = false := by unfold ovF; simp; omega
        rw [hov]
        cases ho : a.o
        · cases ho2 : b.o
          · left; rfl
          · rcases hb.2 with h2 | h2
            · rw [ho2] at h2; cases h2
            · omega
        · rcases ha.2 with h2 | h2
          · rw [ho] at h2; cases h2
          · omega
theorem Gd.mrg {a b : Ag} (ha : Gd a) (hb : Gd b) : Gd (mrg a b) := by
  refine ⟨mrg_cnk ha.c hb.c, mrg_rightB ha.r hb.r ha.c hb.c, fun h => ?_⟩
  by_cases h1 : a.c = 0
  · have e : Go.Proofs.YthicmbjiblbcmaaGreat.mrg a b = b := by unfold Go.Proofs.YthicmbjiblbcmaaGreat.mrg; rw [if_pos h1]
    rw [e] at h ⊢; exact hb.z h
  · by_cases h2 : b.c = 0
    · have e : Go.Proofs.YthicmbjiblbcmaaGreat.mrg a b = a := by unfold Go.Proofs.YthicmbjiblbcmaaGreat.mrg; rw [if_neg h1, if_pos h2]
      rw [e] at h ⊢; exact ha.z h
    · exfalso
      rw [mrg_both a b h1 h2] at h
      dsimp only at h
      have c1 := ha.c.1
      have c2 := hb.c.1
      unfold cntF at h
      split at h <;> omega
theorem gd_comm {a b : Ag} (ha : Gd a) (hb : Gd b) : mrg a b = mrg b a := by
  by_cases h1 : a.c = 0
  · by_cases h2 : b.c = 0
    · rw [ha.z h1, hb.z h2]
    · unfold mrg; rw [if_pos h1, if_neg h2, if_pos h1]
  · by_cases h2 : b.c = 0
    · unfold mrg; rw [if_neg h1, if_pos h2, if_pos h2]
    · rw [mrg_both a b h1 h2, mrg_both b a h2 h1]
      have e1 : cntF a.c b.c = cntF b.c a.c := by unfold cntF; rw [Int.add_comm]
      have e2 : (ovF a.c b.c || a.o || b.o) = (ovF b.c a.c || b.o || a.o) := by
        unfold ovF; rw [Int.add_comm]; cases a.o <;> cases b.o <;> simp
      have e3 : minF a.mn b.mn = minF b.mn a.mn := by unfold minF; split <;> split <;> omega
      have e4 : maxF a.mx b.mx = maxF b.mx a.mx := by unfold maxF; split <;> split <;> omega
      rw [e1, e2, Int.add_comm a.s, e3, e4]
theorem gd_assoc {z x y : Ag} (kz : Gd z) (kx : Gd x) (ky : Gd y) : mrg (mrg z x) y = mrg z (mrg x y) := by
  by_cases h1 : z.c = 0
  · have e1 : ∀ t, mrg z t = t := fun t => by unfold mrg; rw [if_pos h1]
    rw [e1, e1]
  · by_cases h2 : x.c = 0
    · have e1 : mrg z x = z := by unfold mrg; rw [if_neg h1, if_pos h2]
      have e2 : mrg x y = y := by unfold mrg; rw [if_pos h2]
      rw [e1, e2]
    · have hz : 0 < z.c := by have := kz.c.1; omega
      have hx : 0 < x.c := by have := kx.c.1; omega
      have p1 : 0 < cntF z.c x.c := by unfold cntF; split <;> omega
      by_cases h3 : y.c = 0
      · have e2 : mrg x y = x := by unfold mrg; rw [if_neg h2, if_pos h3]
        rw [e2, mrg_both z x h1 h2]
        unfold mrg
        dsimp only
        rw [if_neg (by omega), if_pos h3]
      · have hy : 0 < y.c := by have := ky.c.1; omega
        have p2 : 0 < cntF x.c y.c := by unfold cntF; split <;> omega
        rw [mrg_both z x h1 h2, mrg_both x y h2 h3, mrg_both _ y (by dsimp only; omega) h3, mrg_both z _ h1 (by dsimp only; omega)]
        dsimp only
        have e1 : cntF (cntF z.c x.c) y.c = cntF z.c (cntF x.c y.c) := by unfold cntF; split <;> split <;> split <;> (try split) <;> omega
        have e2 : (ovF (cntF z.c x.c) y.c || (ovF z.c x.c || z.o || x.o) || y.o) = (ovF z.c (cntF x.c y.c) || z.o || (ovF x.c y.c || x.o || y.o)) := by
          unfold ovF cntF
          cases z.o <;> cases x.o <;> cases y.o <;> simp
          rw [Bool.eq_iff_iff]
          simp
          split <;> split <;> omega
        have e3 : minF (minF z.mn x.mn) y.mn = minF z.mn (minF x.mn y.mn) := by unfold minF; (repeat' split) <;> omega
        have e4 : maxF (maxF z.mx x.mx) y.mx = maxF z.mx (maxF x.mx y.mx) := by unfold maxF; (repeat' split) <;> omega
        rw [e1, e2, Int.add_assoc, e3, e4]
/-- One more entry, at its place. -/
def ins (x : En) : List En → List En
  | [] => [x]
  | y :: L => if ltK x.1 y.1 then x :: y :: L else if x.1 = y.1 then (y.1, mrg x.2 y.2) :: L else y :: ins x L
def ap (A L : List En) : List En := A.foldr ins L
/-- What comes of entries. -/
def can (M : List En) : List En := ap M []
def GdE (L : List En) : Prop := ∀ y ∈ L, Gd y.2
theorem GdE.cons {x : En} {L : List En} : GdE (x :: L) ↔ Gd x.2 ∧ GdE L := by unfold GdE; simp
theorem GdE.nil : GdE [] := fun _ h => by cases h
theorem GdE.app {A B : List En} : GdE (A ++ B) ↔ GdE A ∧ GdE B := by
  unfold GdE
  constructor
  · intro h; exact ⟨fun y hy => h y (List.mem_append_left _ hy), fun y hy => h y (List.mem_append_right _ hy)⟩
  · intro h y hy
    rcases List.mem_append.1 hy with h1 | h1
    · exact h.1 y h1
    · exact h.2 y h1
theorem GdE.perm {A B : List En} (h : GdE A) (hp : A.Perm B) : GdE B := fun y hy => h y (hp.mem_iff.2 hy)
theorem ins_gd {x : En} (hx : Gd x.2) : ∀ {L : List En}, GdE L → GdE (ins x L)
  | [], _ => by unfold ins; exact GdE.cons.2 ⟨hx, GdE.nil⟩
  | y :: L, h => by
    have h' := GdE.cons.1 h
    unfold ins
    split
    · exact GdE.cons.2 ⟨hx, h⟩
    · split
      · exact GdE.cons.2 ⟨hx.mrg h'.1, h'.2⟩
      · exact GdE.cons.2 ⟨h'.1, ins_gd hx h'.2⟩
theorem ap_gd {L : List En} (hL : GdE L) : ∀ {A : List En}, GdE A → GdE (ap A L)
  | [], _ => hL
  | _ :: _, h => ins_gd (GdE.cons.1 h).1 (ap_gd hL (GdE.cons.1 h).2)
theorem can_gd {A : List En} (h : GdE A) : GdE (can A) := ap_gd GdE.nil h
theorem ins_lt {x y : En} {L : List En} (h : ltK x.1 y.1) : ins x (y :: L) = x :: y :: L := by rw [ins, if_pos h]
theorem ins_eq {x y : En} {L : List En} (h : x.1 = y.1) : ins x (y :: L) = (y.1, mrg x.2 y.2) :: L := by
  rw [ins, if_neg (by rw [h]; exact ltK_irrefl _), if_pos h]
theorem ins_gt {x y : En} {L : List En} (h : ltK y.1 x.1) : ins x (y :: L) = y :: ins x L := by
  rw [ins, if_neg (fun h2 => ltK_irrefl _ (ltK_trans h h2)), if_neg (fun e => ltK_ne h e.symm)]
theorem ins_comm {x y : En} (hx : Gd x.2) (hy : Gd y.2) : ∀ {L : List En}, GdE L → ins x (ins y L) = ins y (ins x L)
  | [], _ => by
    show ins x [y] = ins y [x]
    rcases ltK_tri x.1 y.1 with h | h | h
    · rw [ins_lt h, ins_gt h]; rfl
    · rw [ins_eq h, ins_eq h.symm, gd_comm hx hy, h]
    · rw [ins_gt h, ins_lt h]; rfl
  | z :: L, hL => by
    have hz := (GdE.cons.1 hL).1
    have ih := ins_comm hx hy (GdE.cons.1 hL).2
    rcases ltK_tri x.1 z.1 with h1 | h1 | h1
    · rcases ltK_tri y.1 z.1 with h2 | h2 | h2
      · rw [ins_lt h1, ins_lt h2]
        rcases ltK_tri x.1 y.1 with h | h | h
        · rw [ins_lt h, ins_gt h, ins_lt h2]
        · rw [ins_eq h, ins_eq h.symm, gd_comm hx hy, h]
        · rw [ins_gt h, ins_lt h, ins_lt h1]
      · have h3 : ltK x.1 y.1 := h2 ▸ h1
        rw [ins_lt h1, ins_eq h2, ins_gt h3, ins_eq h2, ins_lt (by exact h1)]
      · have h3 : ltK x.1 y.1 := ltK_trans h1 h2
        rw [ins_lt h1, ins_gt h2, ins_gt h3, ins_gt h2, ins_lt h1]
    · rcases ltK_tri y.1 z.1 with h2 | h2 | h2
      · have h3 : ltK y.1 x.1 := h1 ▸ h2
        rw [ins_eq h1, ins_lt h2, ins_gt h3, ins_eq h1, ins_lt (by exact h2)]
      · rw [ins_eq h1, ins_eq h2, ins_eq (by exact h1), ins_eq (by exact h2)]
        dsimp only
        rw [← gd_assoc hx hy hz, gd_comm hx hy, gd_assoc hy hx hz]
      · rw [ins_eq h1, ins_gt h2, ins_eq h1, ins_gt (by exact h2)]
    · rcases ltK_tri y.1 z.1 with h2 | h2 | h2
      · have h3 : ltK y.1 x.1 := ltK_trans h2 h1
        rw [ins_gt h1, ins_lt h2, ins_lt h2, ins_gt h3, ins_gt h1]
      · rw [ins_gt h1, ins_eq h2, ins_eq h2, ins_gt (by exact h1)]
      · rw [ins_gt h1, ins_gt h2, ins_gt h2, ins_gt h1, ih]
theorem ins_join {k : Ks} {a b : Ag} (ha : Gd a) (hb : Gd b) : ∀ {L : List En}, GdE L → ins (k, a) (ins (k, b) L) = ins (k, mrg a b) L
  | [], _ => by
    show ins (k, a) [(k, b)] = [(k, mrg a b)]
    rw [ins_eq (x := (k, a)) (y := (k, b)) rfl]
  | z :: L, hL => by
    have hz := (GdE.cons.1 hL).1
    have ih := ins_join (k := k) ha hb (GdE.cons.1 hL).2
    rcases ltK_tri k z.1 with h1 | h1 | h1
    · rw [ins_lt (x := (k, b)) h1, ins_lt (x := (k, mrg a b)) h1, ins_eq (x := (k, a)) (y := (k, b)) rfl]
    · rw [ins_eq (x := (k, b)) h1, ins_eq (x := (k, mrg a b)) h1, ins_eq (x := (k, a)) (by exact h1)]
      dsimp only
      rw [gd_assoc ha hb hz]
    · rw [ins_gt (x := (k, b)) h1, ins_gt (x := (k, mrg a b)) h1, ins_gt (x := (k, a)) h1, ih]
theorem ap_cons (x : En) (A L : List En) : ap (x :: A) L = ins x (ap A L) := rfl
theorem ap_app (A B L : List En) : ap (A ++ B) L = ap A (ap B L) := List.foldr_append
theorem can_app (A B : List En) : can (A ++ B) = ap A (can B) := ap_app A B []
theorem ap_perm {A B : List En} (hp : A.Perm B) : GdE A → ∀ {L : List En}, GdE L → ap A L = ap B L := by
  induction hp with
  | nil => intro _ L _; rfl
  | cons x p ih => intro h L hL; rw [ap_cons, ap_cons, ih (GdE.cons.1 h).2 hL]
  | swap x y l =>
    intro h L hL
    have h1 := GdE.cons.1 h
    have h2 := GdE.cons.1 h1.2
    rw [ap_cons, ap_cons, ap_cons, ap_cons]
    exact ins_comm h1.1 h2.1 (ap_gd hL h2.2)
  | trans p1 p2 i1 i2 => intro h L hL; rw [i1 h hL, i2 (h.perm p1) hL]
/-- In which order they stand is of no matter. -/
theorem can_perm {A B : List En} (hp : A.Perm B) (h : GdE A) : can A = can B := ap_perm hp h GdE.nil
theorem ap_ins {x : En} (hx : Gd x.2) {C : List En} (hC : GdE C) : ∀ {L : List En}, GdE L → ap (ins x L) C = ins x (ap L C)
  | [], _ => rfl
  | y :: L, hL => by
    have h' := GdE.cons.1 hL
    rcases ltK_tri x.1 y.1 with h | h | h
    · rw [ins_lt h]; rfl
    · rw [ins_eq h, ap_cons, ap_cons]
      have := ins_join (k := y.1) hx h'.1 (ap_gd hC h'.2)
      rw [← this]
      have e : x = (y.1, x.2) := Prod.ext h rfl
      rw [← e]
    · rw [ins_gt h, ap_cons, ap_cons, ap_ins hx hC h'.2]
      exact ins_comm h'.1 hx (ap_gd hC h'.2)
theorem ap_can {C : List En} (hC : GdE C) : ∀ {A : List En}, GdE A → ap (can A) C = ap A C
  | [], _ => rfl
  | x :: A, h => by
    have h' := GdE.cons.1 h
    show ap (ins x (can A)) C = ins x (ap A C)
    rw [ap_ins h'.1 hC (can_gd h'.2), ap_can hC h'.2]
/-- Nor whether some are put together ahead. -/
theorem can_two {A B : List En} (hA : GdE A) (hB : GdE B) : can (can A ++ can B) = can (A ++ B) := by
  rw [can_app, ap_can (can_gd (can_gd hB)) hA, can_app]
  congr 1
  have := ap_can GdE.nil hB
  exact this
/-- Other keys. -/
def fm (f : Ks → Option Ks) (M : List En) : List En := M.filterMap fun x => (f x.1).map fun k => (k, x.2)
theorem fm_cons (f : Ks → Option Ks) (x : En) (M : List En) : fm f (x :: M) = match f x.1 with | none => fm f M | some k => (k, x.2) :: fm f M := by
  unfold fm
  rw [List.filterMap_cons]
  cases f x.1 <;> rfl
theorem fm_app (f : Ks → Option Ks) (A B : List En) : fm f (A ++ B) = fm f A ++ fm f B := List.filterMap_append
theorem fm_gd (f : Ks → Option Ks) : ∀ {M : List En}, GdE M → GdE (fm f M)
  | [], _ => GdE.nil
  | x :: M, h => by
    have h' := GdE.cons.1 h
    rw [fm_cons]
    cases f x.1 with
    | none => exact fm_gd f h'.2
    | some k => exact GdE.cons.2 ⟨h'.1, fm_gd f h'.2⟩
theorem fm_perm (f : Ks → Option Ks) {A B : List En} (h : A.Perm B) : (fm f A).Perm (fm f B) := h.filterMap _
theorem ap_fm_ins (f : Ks → Option Ks) {x : En} (hx : Gd x.2) {C : List En} (hC : GdE C) : ∀ {L : List En}, GdE L → ap (fm f (ins x L)) C = ap (fm f (x :: L)) C
  | [], _ => rfl
  | y :: L, hL => by
    have h' := GdE.cons.1 hL
    rcases ltK_tri x.1 y.1 with h | h | h
    · rw [ins_lt h]
    · rw [ins_eq h, fm_cons, fm_cons, fm_cons, h]
      dsimp only
      cases hf : f y.1 with
      | none => rfl
      | some k =>
        exact (ins_join hx h'.1 (ap_gd hC (fm_gd f h'.2))).symm
    · have ih := ap_fm_ins f hx hC h'.2
      rw [ins_gt h, fm_cons]
      rw [fm_cons] at ih
      rw [fm_cons f x, fm_cons f y]
      cases hy : f y.1 with
      | none => exact ih
      | some k =>
        show ins (k, y.2) (ap (fm f (ins x L)) C) = _
        rw [ih]
        cases hf : f x.1 with
        | none => rfl
        | some m => exact ins_comm (x := (k, y.2)) (y := (m, x.2)) h'.1 hx (ap_gd hC (fm_gd f h'.2))
theorem can_fm (f : Ks → Option Ks) : ∀ {A : List En}, GdE A → ∀ {C : List En}, GdE C → ap (fm f (can A)) C = ap (fm f A) C
  | [], _, _, _ => rfl
  | x :: A, h, C, hC => by
    have h' := GdE.cons.1 h
    show ap (fm f (ins x (can A))) C = _
    rw [ap_fm_ins f h'.1 hC (can_gd h'.2), fm_cons, fm_cons]
    cases f x.1 with
    | none => exact can_fm f h'.2 hC
    | some k =>
      show ins _ (ap _ C) = ins _ (ap _ C)
      rw [can_fm f h'.2 hC]
/-- In order, each key once. -/
def SrtE (L : List En) : Prop := (keysE L).Pairwise ltK
theorem SrtE.cons {x : En} {L : List En} : SrtE (x :: L) ↔ (∀ y ∈ L, ltK x.1 y.1) ∧ SrtE L := by
  unfold SrtE keysE
  rw [List.map_cons, List.pairwise_cons]
  simp
theorem SrtE.nil : SrtE [] := List.Pairwise.nil
theorem ins_mem {x y : En} : ∀ {L : List En}, y ∈ ins x L → y.1 = x.1 ∨ ∃ z ∈ L, y.1 = z.1
  | [], h => by unfold ins at h; simp at h; exact .inl (by rw [h])
  | z :: L, h => by
    rcases ltK_tri x.1 z.1 with h1 | h1 | h1
    · rw [ins_lt h1] at h
      rcases List.mem_cons.1 h with rfl | h
      · exact .inl rfl
      · exact .inr ⟨y, h, rfl⟩
    · rw [ins_eq h1] at h
      rcases List.mem_cons.1 h with rfl | h
      · exact .inl h1.symm
      · exact .inr ⟨y, List.mem_cons_of_mem _ h, rfl⟩
    · rw [ins_gt h1] at h
      rcases List.mem_cons.1 h with rfl | h
      · exact .inr ⟨y, List.mem_cons_self .., rfl⟩
      · rcases ins_mem h with h | ⟨u, hu, e⟩
        · exact .inl h
        · exact .inr ⟨u, List.mem_cons_of_mem _ hu, e⟩
theorem ins_srt {x : En} : ∀ {L : List En}, SrtE L → SrtE (ins x L)
  | [], _ => SrtE.cons.2 ⟨fun _ h => (by cases h), SrtE.nil⟩
  | z :: L, h => by
    have h' := SrtE.cons.1 h
    rcases ltK_tri x.1 z.1 with h1 | h1 | h1
    · rw [ins_lt h1]
      refine SrtE.cons.2 ⟨fun y hy => ?_, h⟩
      rcases List.mem_cons.1 hy with rfl | hy
      · exact h1
      · exact ltK_trans h1 (h'.1 y hy)
    · rw [ins_eq h1]; exact SrtE.cons.2 ⟨h'.1, h'.2⟩
    · rw [ins_gt h1]
      refine SrtE.cons.2 ⟨fun y hy => ?_, ins_srt h'.2⟩
      rcases ins_mem hy with e | ⟨u, hu, e⟩
      · rw [e]; exact h1
      · rw [e]; exact h'.1 u hu
theorem ap_srt {L : List En} (h : SrtE L) : ∀ (A : List En), SrtE (ap A L)
  | [] => h
  | _ :: A => ins_srt (ap_srt h A)
theorem can_srt (A : List En) : SrtE (can A) := ap_srt SrtE.nil A
theorem can_mem {y : En} : ∀ {A : List En}, y ∈ can A → ∃ z ∈ A, y.1 = z.1
  | [], h => by cases h
  | x :: A, h => by
    rcases ins_mem (show y ∈ ins x (can A) from h) with e | ⟨u, hu, e⟩
    · exact ⟨x, List.mem_cons_self .., e⟩
    · obtain ⟨z, hz, e2⟩ := can_mem hu
      exact ⟨z, List.mem_cons_of_mem _ hz, e.trans e2⟩
theorem ins_len (x : En) : ∀ L : List En, (ins x L).length ≤ L.length + 1
  | [] => by simp [ins]
  | z :: L => by
    unfold ins
    split
    · simp
    · split
      · simp
      · have := ins_len x L; simp; omega
theorem can_len : ∀ A : List En, (can A).length ≤ A.length
  | [] => by simp [can, ap]
  | x :: A => by
    have h1 := ins_len x (can A)
    have h2 := can_len A
    show (ins x (can A)).length ≤ _
    simp; omega
theorem ins_end {x : En} : ∀ {L : List En}, (∀ y ∈ L, ltK y.1 x.1) → ins x L = L ++ [x]
  | [], _ => rfl
  | y :: L, h => by
    rw [ins_gt (h y (List.mem_cons_self ..)), ins_end (fun z hz => h z (List.mem_cons_of_mem _ hz))]; rfl
theorem ins_last {x l : En} (e : x.1 = l.1) : ∀ {L : List En}, (∀ y ∈ L, ltK y.1 l.1) → ins x (L ++ [l]) = L ++ [(l.1, mrg x.2 l.2)]
  | [], _ => by show ins x [l] = _; rw [ins_eq e]; rfl
  | y :: L, h => by
    show ins x (y :: (L ++ [l])) = _
    rw [ins_gt (e ▸ h y (List.mem_cons_self ..)), ins_last e (fun z hz => h z (List.mem_cons_of_mem _ hz))]; rfl
/-- A tag without its row. -/
def unt (t : Tg) : En := (t.1.1, t.2)
theorem snoc_cases {α : Type} (l : List α) : l = [] ∨ ∃ m x, l = m ++ [x] := by
  rcases Nat.eq_zero_or_pos l.length with h | h
  · exact .inl (List.length_eq_zero_iff.1 h)
  · have hne : l ≠ [] := fun e => by rw [e] at h; simp at h
    exact .inr ⟨l.dropLast, l.getLast hne, (List.dropLast_concat_getLast hne).symm⟩
theorem SrtE.snoc {L : List En} {x : En} (h : SrtE (L ++ [x])) : ∀ y ∈ L, ltK y.1 x.1 := by
  unfold SrtE keysE at h
  rw [List.map_append, List.pairwise_append] at h
  intro y hy
  exact h.2.2 y.1 (List.mem_map.2 ⟨y, hy, rfl⟩) x.1 (by simp)
theorem addG_ins {E : List En} {t : Tg} (hs : SrtE E) (hn : (∀ l, E.getLast? = some l → l.1 ≠ t.1.1) → ∀ y ∈ E, ltK y.1 t.1.1) (hE : GdE E) (ht : Gd t.2) : addG E t = ins (unt t) E := by
  rcases snoc_cases E with rfl | ⟨D, l, rfl⟩
  · rfl
  · unfold addG
    rw [List.getLast?_concat]
    dsimp only
    by_cases h : l.1 = t.1.1
    · rw [if_pos h, List.dropLast_concat, ins_last (x := unt t) (by exact h.symm) hs.snoc]
      rw [gd_comm (hE l (by simp)) ht]; rfl
    · rw [if_neg h, ins_end (x := unt t)]
      · rfl
      · exact hn (fun l' e => by rw [List.getLast?_concat] at e; cases e; exact h)
theorem grp_can : ∀ D : List Tg, D.Pairwise ltG → (∀ t ∈ D, Gd t.2) → grpG D = can (D.map unt) := by
  refine snoc_ind ?_ ?_
  · intro _ _; rfl
  · intro D t ih hp hg
    have hp0 := hp
    rw [List.pairwise_append] at hp
    have hgD : ∀ x ∈ D, Gd x.2 := fun x hx => hg x (List.mem_append_left _ hx)
    have e1 := ih hp.1 hgD
    have hgE : GdE (D.map unt) := fun y hy => by
      obtain ⟨x, hx, rfl⟩ := List.mem_map.1 hy
      exact hgD x hx
    have ht := hg t (by simp)
    rw [grpG_snoc, e1, List.map_append]
    have hperm : (D.map unt ++ [t].map unt).Perm (unt t :: D.map unt) := by
      have := List.perm_append_comm (l₁ := D.map unt) (l₂ := [unt t])
      exact this
    rw [can_perm hperm (GdE.app.2 ⟨hgE, fun y hy => by simp at hy; rw [hy]; exact ht⟩)]
    show addG _ t = ins (unt t) (can (D.map unt))
    refine addG_ins (can_srt _) (fun hl y hy => ?_) (can_gd hgE) ht
    obtain ⟨z, hz, e⟩ := can_mem hy
    obtain ⟨d, hd, rfl⟩ := List.mem_map.1 hz
    have hlt := hp.2.2 d hd t (by simp)
    rw [e]
    rcases hlt with h | ⟨h, _⟩
    · exact h
    · exfalso
      have hne : can (D.map unt) ≠ [] := fun e0 => by rw [e0] at hy; cases hy
      have hlast := List.getLast?_eq_some_getLast hne
      have hmem := List.getLast_mem hne
      obtain ⟨u, hu, eu⟩ := can_mem hmem
      obtain ⟨d2, hd2, rfl⟩ := List.mem_map.1 hu
      have h2 := hp.2.2 d2 hd2 t (by simp)
      have hle : y.1 = ((can (D.map unt)).getLast hne).1 ∨ ltK y.1 ((can (D.map unt)).getLast hne).1 := by
        rcases snoc_cases (can (D.map unt)) with e0 | ⟨m, x, e0⟩
        · exact absurd e0 hne
        · have hs := can_srt (D.map unt)
          have hgl : (can (D.map unt)).getLast hne = x := by simp [e0]
          rw [hgl]
          rw [e0] at hs hy
          rcases List.mem_append.1 hy with h3 | h3
          · exact .inr (hs.snoc y h3)
          · simp at h3; exact .inl (by rw [h3])
      have hk : y.1 = t.1.1 := e.trans h
      rcases hle with h3 | h3
      · exact hl _ hlast (h3.symm.trans hk)
      · rw [hk, eu] at h3
        rcases h2 with h4 | ⟨h4, _⟩
        · exact ltK_irrefl _ (ltK_trans h3 h4)
        · exact ltK_ne h3 h4.symm
theorem tags_unt : ∀ (rs : List (List En)) (i : Nat), (tagsF i rs).map unt = rs.flatten
  | [], _ => rfl
  | r :: rs, i => by
    unfold tagsF
    rw [List.map_append, tags_unt rs (i + 1), List.flatten_cons]
    congr 1
    unfold tagP
    rw [List.map_map]
    exact List.map_id r
def GdR (rs : List (List En)) : Prop := ∀ r ∈ rs, GdE r
theorem GdR.flat {rs : List (List En)} (h : GdR rs) : GdE rs.flatten := fun y hy => by
  obtain ⟨r, hr, hy⟩ := List.mem_flatten.1 hy
  exact h r hr y hy
/-- All rows together, by their entries. -/
theorem allF_can {rs : List (List En)} (h : rowsF rs = 0) (hg : GdR rs) : allF rs = can rs.flatten := by
  have hp : (seqF rs).Perm (tagsF 0 rs) := srtG_perm _
  have hu : ((seqF rs).map unt).Perm rs.flatten := by
    have := hp.map unt
    rw [tags_unt] at this
    exact this
  have hgs : ∀ t ∈ seqF rs, Gd t.2 := fun t ht => by
    have : unt t ∈ rs.flatten := hu.mem_iff.1 (List.mem_map.2 ⟨t, ht, rfl⟩)
    exact hg.flat _ this
  unfold allF
  rw [grp_can _ (seqF_pw h) hgs]
  exact can_perm hu (hg.flat.perm hu.symm)
end Go.Proofs.YthicmbjiblbcmaaGreat

/- The contracts of grain's small functions. -/
namespace Go.Proofs.YthicmbjiblbcmaaGreat
open Go.RowKit

/-- A time. -/
def isT (t : Int) : Bool := decide (0 ≤ t) && decide (t ≤ 1099511627776)
/-- A size. -/
def isS (t : Int) : Bool := decide (1 ≤ t) && decide (t ≤ 1099511627776)
theorem isT_iff (t : Int) : isT t = true ↔ 0 ≤ t ∧ t ≤ 1099511627776 := by simp [isT]
theorem isS_iff (t : Int) : isS t = true ↔ 1 ≤ t ∧ t ≤ 1099511627776 := by simp [isS]

set_option maxHeartbeats 400000 in
theorem isTime_any (t : Int) (w : World) : Calls Tryz.prog 64 #[.int .i64 t] w fun e w' => e = .returned (.bool (isT t)) ∧ w' = w := by
  unfold isT
  generalize h1 : decide (0 ≤ t) = p
  generalize h2 : decide (t ≤ 1099511627776) = q
  cases p <;> cases q <;>
  · go_enter Tryz.func64, Tryz.ntmps64
    go_wp2_with fail
    go_ret
    exact ⟨rfl, rfl⟩
set_option maxHeartbeats 400000 in
theorem isSize_any (t : Int) (w : World) : Calls Tryz.prog 65 #[.int .i64 t] w fun e w' => e = .returned (.bool (isS t)) ∧ w' = w := by
  unfold isS
  generalize h1 : decide (1 ≤ t) = p
  generalize h2 : decide (t ≤ 1099511627776) = q
  cases p <;> cases q <;>
  · go_enter Tryz.func65, Tryz.ntmps65
    go_wp2_with fail
    go_ret
    exact ⟨rfl, rfl⟩
theorem emod_leI (t s : Int) (t1 : 0 ≤ t) (s1 : 0 < s) : t % s ≤ t := by
  have h := Int.emod_add_mul_ediv t s
  have : 0 ≤ s * (t / s) := Int.mul_nonneg (by omega) (Int.ediv_nonneg t1 (by omega))
  omega
theorem mod_bd (t s : Int) (t1 : 0 ≤ t) (s1 : 1 ≤ s) : 0 ≤ t % s ∧ t % s ≤ t ∧ t % s < s :=
  ⟨Int.emod_nonneg _ (by omega), emod_leI t s t1 (by omega), Int.emod_lt_of_pos _ (by omega)⟩
set_option maxHeartbeats 400000 in
theorem begin_any (t s : Int) (ht : isT t = true) (hs : isS s = true) (w : World) : Calls Tryz.prog 66 #[.int .i64 t, .int .i64 s] w fun e w' => e = .returned (.int .i64 (t - t % s)) ∧ w' = w := by
  obtain ⟨t1, t2⟩ := (isT_iff t).1 ht
  obtain ⟨s1, s2⟩ := (isS_iff s).1 hs
  have hs0 : s ≠ 0 := by omega
  have hb := mod_bd t s t1 s1
  have et : Int.tmod t s = t % s := Int.tmod_eq_emod_of_nonneg t1
  clear ht hs
  go_enter Tryz.func66, Tryz.ntmps66
  go_wp2_with fail
  go_ret
  exact ⟨rfl, rfl⟩
end Go.Proofs.YthicmbjiblbcmaaGreat

/- The contracts of grain's end, follows and Floor, and of the reference's Time and Floor. -/
namespace Go.Proofs.YthicmbjiblbcmaaGreat
open Go.RowKit

/-- Where a bucket ends. -/
def endF (t s : Int) : Int := t - t % s + s
set_option maxHeartbeats 400000 in
theorem end_any (t s : Int) (ht : isT t = true) (hs : isS s = true) (w : World) : Calls Tryz.prog 67 #[.int .i64 t, .int .i64 s] w fun e w' => e = .returned (.int .i64 (endF t s)) ∧ w' = w := by
  obtain ⟨t1, t2⟩ := (isT_iff t).1 ht
  obtain ⟨s1, s2⟩ := (isS_iff s).1 hs
  have hb := mod_bd t s t1 s1
  unfold endF
  go_enter Tryz.func67, Tryz.ntmps67
  go_wp2_with fail
  refine (begin_any t s ht hs _).mono ?_
  rintro e w' ⟨rfl, rfl⟩
  clear ht hs
  go_wp2_with fail
  go_ret
  exact ⟨rfl, rfl⟩

/-- A step may stand behind another one. -/
def folB (s0 a0 s1 a1 : Int) : Bool := decide (s0 < s1) && ((s1 % s0 == 0) && decide (a0 ≤ a1))
set_option maxHeartbeats 400000 in
theorem follows_any (s0 a0 s1 a1 : Int) (h0 : isS s0 = true) (h1 : isS s1 = true) (w : World) : Calls Tryz.prog 105 #[.agg #[.int .i64 s0, .int .i64 a0], .agg #[.int .i64 s1, .int .i64 a1]] w fun e w' => e = .returned (.bool (folB s0 a0 s1 a1)) ∧ Below w.heap.size w w' := by
  obtain ⟨p1, p2⟩ := (isS_iff s0).1 h0
  obtain ⟨q1, q2⟩ := (isS_iff s1).1 h1
  have hs0 : s0 ≠ 0 := by omega
  have hb := mod_bd s1 s0 (by omega) (by omega)
  have et : Int.tmod s1 s0 = s1 % s0 := Int.tmod_eq_emod_of_nonneg (by omega)
  clear h0 h1
  have HB : Hid (∀ o1 o2, Below w.heap.size w ((w.alloc o1).alloc o2)) := fun o1 o2 => ((Below.refl _ _).alloc (by simp) _).alloc (by simp) _
  unfold folB
  generalize h1 : decide (s0 < s1) = p
  generalize h2 : (s1 % s0 == 0) = q
  generalize h3 : decide (a0 ≤ a1) = r
  cases p <;> cases q <;> cases r <;>
  · go_enter Tryz.func105, Tryz.ntmps105
    go_wp2_with fail
    go_ret
    exact ⟨rfl, HB.out _ _⟩

/-- What Floor tells. -/
def floorV (t s : Int) : Value := .tuple #[.int .i64 (if isT t && isS s then t - t % s else 0), .int .i64 (if isT t && isS s then 0 else 1)]
set_option maxHeartbeats 400000 in
theorem floor_any (t s : Int) (w : World) : Calls Tryz.prog 38 #[.int .i64 t, .int .i64 s] w fun e w' => e = .returned (floorV t s) ∧ w' = w := by
  unfold floorV
  cases ht : isT t
  · go_enter Tryz.func38, Tryz.ntmps38
    go_wp2_with fail
    refine (isTime_any t _).mono ?_
    rw [ht]
    rintro e w' ⟨rfl, rfl⟩
    go_wp2_with fail
    go_ret2
    exact ⟨rfl, rfl⟩
  · cases hs : isS s
    · go_enter Tryz.func38, Tryz.ntmps38
      go_wp2_with fail
      refine (isTime_any t _).mono ?_
      rw [ht]
      rintro e w' ⟨rfl, rfl⟩
      go_wp2_with fail
      refine (isSize_any s _).mono ?_
      rw [hs]
      rintro e w' ⟨rfl, rfl⟩
      go_wp2_with fail
      go_ret2
      exact ⟨rfl, rfl⟩
    · go_enter Tryz.func38, Tryz.ntmps38
      go_wp2_with fail
      refine (isTime_any t _).mono ?_
      rw [ht]
      rintro e w' ⟨rfl, rfl⟩
      go_wp2_with fail
      refine (isSize_any s _).mono ?_
      rw [hs]
      rintro e w' ⟨rfl, rfl⟩
      go_wp2_with fail
      refine (begin_any t s ht hs _).mono ?_
      rintro e w' ⟨rfl, rfl⟩
      go_wp2_with fail
      go_ret2
      exact ⟨rfl, rfl⟩
end Go.Proofs.YthicmbjiblbcmaaGreat
